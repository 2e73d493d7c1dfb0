/- Stage 11: what stands in a node: the program's closure. (mk_sc24.py) -/
import Derived.Test.YtmdkocegnbcgmaaGreatDoorZ24
import Derived.BigQuiet
import Derived.Laws.EntriesVeiled
import Derived.Deep.RegionWith
import Derived.Deep.RegionHeld3
import Derived.Test.YtmdkocegnbcgmaaGreatDoorZ26
namespace Go.Proofs.YtmdkocegnbcgmaaGreatDoor
open Go.RowKit ObjM
namespace ScD
open TreeD (Nd NdsAt KidsAt ndAt kindAt)
def standF (L K C F : Nat) : Value := .func (.func 38) #[] #[.pointer (some ⟨L, 0, none⟩), .pointer (some ⟨K, 0, none⟩), .pointer (some ⟨C, 0, none⟩), .pointer (some ⟨F, 0, none⟩)]
theorem cellH {w W : World} (h : W.heap = w.heap) (a : Addr) : W.cell? a = w.cell? a := by simp [World.cell?, h]
theorem ltH {w W : World} (h : W.heap = w.heap) {a : Nat} (k : a < w.heap.size) : a < W.heap.size := by rw [h]; exact k
theorem _root_.Go.Proofs.YtmdkocegnbcgmaaGreatDoor.ObjM.Has.heap {w W : World} {G : Nat} {t : TypeId} {cs : List Value} (h : Has w G t cs) (hh : W.heap = w.heap) : Has W G t cs := by
  unfold Has at h ⊢
  rw [hh]
  exact h
theorem kids_heap {w W : World} {v : Value} {l : List Int} (h : KidsAt w v l) (hh : W.heap = w.heap) : KidsAt W v l := by
  obtain ⟨av, cap, rfl, h1⟩ := h
  refine ⟨av, cap, rfl, ?_⟩
  rcases h1 with h1 | ⟨g, o, h1, h2, h3⟩
  · exact .inl h1
  · exact .inr ⟨g, o, h1, ltH hh h2, fun i x hx => (cellH hh _).trans (h3 i x hx)⟩
theorem _root_.Go.Proofs.YtmdkocegnbcgmaaGreatDoor.TreeD.NdsAt.heap {w W : World} {v : Value} {l : List Nd} (h : NdsAt w v l) (hh : W.heap = w.heap) : NdsAt W v l := by
  obtain ⟨av, cap, rfl, h1⟩ := h
  refine ⟨av, cap, rfl, ?_⟩
  rcases h1 with h1 | ⟨g, o, h1, h2, h3⟩
  · exact .inl h1
  · refine .inr ⟨g, o, h1, ltH hh h2, fun i n hn => ?_⟩
    obtain ⟨kv, q0, q1, q2, q3, q4⟩ := h3 i n hn
    exact ⟨kv, (cellH hh _).trans q0, (cellH hh _).trans q1, (cellH hh _).trans q2, (cellH hh _).trans q3, kids_heap q4 hh⟩
theorem closedR_any (k : Int) (w : World) : Calls Tryz.prog 17 #[.int .i64 k] w fun e w' => e = .returned (.bool (k == 22)) ∧ ∃ q, w' = w.drewN q := by
  obtain ⟨b1, h1⟩ : ∃ b, (k == 22) = b := ⟨_, rfl⟩
  go_enter Tryz.func17, Tryz.ntmps17
  go_wp2_with fail
  go_ret
  exact ⟨by simp [h1], 0, rfl⟩
set_option maxRecDepth 100000 in
set_option maxHeartbeats 8000000 in
theorem standR_any (l : List Nd) (lv : Value) (kind : Int) (L K C F : Nat) (hkl : ∀ n ∈ l, n.kids.length < 1000000) (hg : ∀ (n : Nat), ∀ k ∈ (ndAt l (n : Int)).kids, 0 ≤ k ∧ k < (n : Int)) : ∀ (n : Nat), n < l.length → ∀ (w : World), NdsAt w lv l →
    Has w L 22 [lv] → Has w K 3 [.int .i64 kind] → Has w C 42 [.func (.func 17) #[] #[]] → Has w F 42 [standF L K C F] →
    Calls Tryz.prog 38 #[.int .i64 (n : Int), .pointer (some ⟨L, 0, none⟩), .pointer (some ⟨K, 0, none⟩), .pointer (some ⟨C, 0, none⟩), .pointer (some ⟨F, 0, none⟩)] w fun e w' => e = .returned (.bool (holdsV l kind true (n + 1) (n : Int))) ∧ ∃ m, w' = w.drewN m := by
  intro n
  induction n using Nat.strongRecOn with
  | ind n ih =>
    intro hlt w hn hL hK hC hF
    have IH : Hid (∀ m : Nat, m < n → ∀ W : World, W.heap = w.heap → Calls Tryz.prog 38 #[.int .i64 (m : Int), .pointer (some ⟨L, 0, none⟩), .pointer (some ⟨K, 0, none⟩), .pointer (some ⟨C, 0, none⟩), .pointer (some ⟨F, 0, none⟩)] W fun e w' => e = .returned (.bool (holdsV l kind true n (m : Int))) ∧ ∃ q, w' = W.drewN q) := Lib.hid fun m hm W hh => by
      have := ih m hm (by omega) W (hn.heap hh) (hL.heap hh) (hK.heap hh) (hC.heap hh) (hF.heap hh)
      rwa [← holdsV_enough hg m n hm] at this
    clear ih
    obtain ⟨av, cv, rfl⟩ := hn.shape
    obtain ⟨b, o, kv, rfl, hb, c0, c1, c2, c3, c4⟩ := hn.at n hlt
    have HN : Hid (∀ m (hm : m < l.length), ∃ kv, TreeD.NdCells w b o m kv l[m]) := Lib.hid fun m hm => by
      obtain ⟨b2, o2, kv2, e, -, h⟩ := hn.at m hm
      injection e with e
      injection e with e1 e2
      subst e1 e2
      exact ⟨kv2, h⟩
    have hx := ndAt_of hlt
    have hks := hg n
    have hkn := hkl l[n] (List.getElem_mem hlt)
    have HV := Lib.hid (holdsV_succ l kind true n (n : Int))
    unfold TreeD.kindAt at HV
    rw [hx] at HV hks
    generalize l[n] = x at c0 c1 c2 c3 c4 hks hkn HV
    obtain ⟨xk, xt, ks, xp⟩ := x
    simp only at c0 c1 c2 c3 c4 hks hkn HV
    rw [HV.out]
    clear HV hx hn hg hkl c1 c3
    have HKs := Lib.hid hks
    clear hks
    obtain ⟨ak, ck, rfl, hkk⟩ := c4
    have HKk := Lib.hid hkk
    clear hkk
    obtain ⟨len, hlen⟩ : ∃ len, l.length = len := ⟨_, rfl⟩
    have HLen := Lib.hid hlen
    have pL := hL.cell 0
    have pK := hK.cell 0
    have pC := hC.cell 0
    have pF := hF.cell 0
    have lL := hL.lt
    have lK := hK.lt
    have lC := hC.lt
    have lF := hF.lt
    simp only [List.getElem?_cons_zero, standF] at pL pK pC pF
    rw [hlen] at hlt pL
    clear hlen hL hK hC hF
    have hni : (n : Int) < (len : Int) := by omega
    have hn0 : (0 : Int) ≤ (n : Int) := by omega
    have HCell : Hid (∀ W : World, W.heap = w.heap → W.cell? ⟨L, 0, none⟩ = some (.slice (some ⟨b, o, none⟩) len cv) ∧ W.cell? ⟨K, 0, none⟩ = some (.int .i64 kind) ∧ W.cell? ⟨C, 0, none⟩ = some (.func (.func 17) #[] #[]) ∧ W.cell? ⟨F, 0, none⟩ = some (.func (.func 38) #[] #[.pointer (some ⟨L, 0, none⟩), .pointer (some ⟨K, 0, none⟩), .pointer (some ⟨C, 0, none⟩), .pointer (some ⟨F, 0, none⟩)]) ∧
        W.cell? ⟨b, o + n * 4 + 2, none⟩ = some (.slice ak ks.length ck) ∧ L < W.heap.size ∧ K < W.heap.size ∧ C < W.heap.size ∧ F < W.heap.size ∧ b < W.heap.size) := Lib.hid fun W hh =>
      ⟨(cellH hh _).trans pL, (cellH hh _).trans pK, (cellH hh _).trans pC, (cellH hh _).trans pF, (cellH hh _).trans c2, ltH hh lL, ltH hh lK, ltH hh lC, ltH hh lF, ltH hh hb⟩
    go_enter Tryz.func38, Tryz.ntmps38
    by_cases hk : xk = kind
    · have bk : (xk == kind) = true := by simpa using hk
      have HT : Hid (decide (xk = kind) = true) := Lib.hid (by simpa using hk)
      rw [HT.out]
      clear HCell HKs HKk HN IH hk HT
      go_wp2
      go_quiet (fail)
      go_wp2
      go_ret
      exact ⟨by simp, _, rfl⟩
    · have bk : (xk == kind) = false := by simpa using hk
      have HT : Hid (decide (xk = kind) = false) := Lib.hid (by simpa using hk)
      rw [HT.out, Bool.false_or]
      clear hk HT
      go_wp2
      go_quiet (fail)
      obtain ⟨W1, hm⟩ : ∃ W1, w.drewN nq = W1 := ⟨_, rfl⟩
      have hh1 : W1.heap = w.heap := by rw [← hm]; rfl
      rw [hm]
      obtain ⟨u1, u2, u3, u4, u5, u6, u7, u8, u9, u10⟩ := HCell.out W1 hh1
      have HM1 := Lib.hid hm
      clear hm hh1 pL pK pC pF lL lK lC lF c0 c2 bk u2 u3 u4 u7 u8 u9
      go_wp2
      go_loopw [22] (fun i wr => ∃ k q : Nat, i = .int .i64 (k : Int) ∧ k ≤ ks.length ∧ Hid (wr = w.drewN q) ∧ Hid ((ks.take k).any (kidB l kind true n) = false)) (fun i _ => ks.length - (intOf i).toNat)
      case atStart => exact ⟨0, nq, rfl, Nat.zero_le _, Lib.hid HM1.out.symm, Lib.hid rfl⟩
      case round =>
        obtain ⟨k, q, rfl, hkl, HW, HA⟩ := hrel
        have hh : wr.heap = w.heap := by rw [HW.out]; rfl
        obtain ⟨v1, v2, v3, v4, v5, v6, v7, v8, v9, v10⟩ := HCell.out wr hh
        by_cases hlt2 : k < ks.length
        · have hi1 : (k : Int) < (ks.length : Int) := by omega
          have hmem := HKs.out ks[k] (List.getElem_mem hlt2)
          have HT : Hid ((ks.take (k + 1)).any (kidB l kind true n) = (kidB l kind true n ks[k])) := Lib.hid (by
            rw [List.take_succ_eq_append_getElem hlt2, List.any_append, HA.out]
            simp)
          have HM : Hid (kidB l kind true n ks[k] = true → ks.any (kidB l kind true n) = true) := Lib.hid fun h => List.any_eq_true.2 ⟨_, List.getElem_mem hlt2, h⟩
          rcases HKk.out with e | ⟨g, o2, rfl, hg2, hc2⟩
          · rw [e] at hlt2
            simp at hlt2
          have d0 := (cellH hh _).trans (hc2 k _ (List.getElem?_eq_getElem hlt2))
          have hg3 := ltH hh hg2
          clear hc2 hg2
          generalize ks[k] = y at hmem HT HM d0
          obtain ⟨y0, y1⟩ := hmem
          obtain ⟨m, rfl⟩ : ∃ m : Nat, y = (m : Int) := ⟨y.toNat, by omega⟩
          have hml : m < l.length := by rw [HLen.out]; omega
          obtain ⟨kv2, m0, -⟩ := HN.out m hml
          have m0 := (cellH hh _).trans m0
          have hmk : kindAt l (m : Int) = l[m].kind := by unfold TreeD.kindAt; rw [ndAt_of hml]
          have HR : Hid (∀ q2, Calls Tryz.prog 38 #[.int .i64 (m : Int), .pointer (some ⟨L, 0, none⟩), .pointer (some ⟨K, 0, none⟩), .pointer (some ⟨C, 0, none⟩), .pointer (some ⟨F, 0, none⟩)] (wr.drewN q2) fun e w' => e = .returned (.bool (holdsV l kind true n (m : Int))) ∧ ∃ q, w' = (wr.drewN q2).drewN q) := Lib.hid (fun q2 => IH.out m (by omega) (wr.drewN q2) hh)
          have HB : Hid (kidB l kind true n (m : Int) = ((!decide (l[m].kind = 22) && (true || !decide (l[m].kind = 9))) && holdsV l kind true n (m : Int))) := Lib.hid (by unfold kidB; rw [hmk])
          clear hmk
          generalize l[m].kind = mk at m0 HB
          generalize holdsV l kind true n (m : Int) = r at HR HB
          have hmi : (m : Int) < (len : Int) := by omega
          have HCl : Hid (∀ q2, Calls Tryz.prog 17 #[.int .i64 mk] (wr.drewN q2) fun e w' => e = .returned (.bool (mk == 22)) ∧ ∃ q, w' = (wr.drewN q2).drewN q) := Lib.hid (fun q2 => closedR_any mk (wr.drewN q2))
          have HEnd : Hid (∀ q2, Hid (wr.drewN q2 = w.drewN (q + q2))) := Lib.hid (fun q2 => Lib.hid (by rw [HW.out, World.drewN_drewN]))
          clear HW hh IH HN HKs HCell
          by_cases h22 : mk = 22
          · subst h22
            simp only [BEq.rfl] at HCl
            skip
            have HF : Hid ((ks.take (k + 1)).any (kidB l kind true n) = false) := Lib.hid (HT.out.trans (by rw [HB.out]; simp))
            clear HB HT HM HR HA
            go_wp2
            go_quiet ((go_at_call 17; exact Calls.quiet_of (HCl.out _)))
            go_wp2
            go_roundw
            case rel => exact ⟨k + 1, _, by go_num, by omega, HEnd.out _, HF⟩
            case measure => simp [intOf]; omega
          · have hcv : (mk == 22) = false := by simp [h22]
            rw [hcv] at HCl
            clear hcv
            skip
            cases r
            · have HF : Hid ((ks.take (k + 1)).any (kidB l kind true n) = false) := Lib.hid (HT.out.trans (by rw [HB.out]; simp))
              clear HB HT HM HA
              go_wp2
              go_quiet ((first | (go_at_call 17; exact Calls.quiet_of (HCl.out _)) | (go_at_call 38; exact Calls.quiet_of (HR.out _))))
              go_wp2
              go_roundw
              case rel => exact ⟨k + 1, _, by go_num, by omega, HEnd.out _, HF⟩
              case measure => simp [intOf]; omega
            · have HF := Lib.hid (HM.out (by rw [HB.out]; simp [h22]))
              clear HB HT HM HA
              go_wp2
              go_quiet ((first | (go_at_call 17; exact Calls.quiet_of (HCl.out _)) | (go_at_call 38; exact Calls.quiet_of (HR.out _))))
              go_wp2
              go_ret
              exact ⟨by rw [HF.out]; rfl, _, (HEnd.out _).out⟩
        · have hkk : k = ks.length := by omega
          subst hkk
          have HF : Hid (ks.any (kidB l kind true n) = false) := Lib.hid (by
            have hA := HA.out
            rwa [List.take_length] at hA)
          have HW2 := HW
          clear HA HW hh HCell HKs HKk HN IH
          go_wp2
          go_ret
          exact ⟨by rw [HF.out]; rfl, q, HW2.out⟩
theorem closedB_any (k : Int) (w : World) : Calls Tryz.prog 20 #[.int .i64 k] w fun e w' => e = .returned (.bool ((k == 22) || (k == 9))) ∧ ∃ q, w' = w.drewN q := by
  obtain ⟨b1, h1⟩ : ∃ b, (k == 22) = b := ⟨_, rfl⟩
  obtain ⟨b2, h2⟩ : ∃ b, (k == 9) = b := ⟨_, rfl⟩
  rw [h1, h2]
  go_enter Tryz.func20, Tryz.ntmps20
  cases b1
  · go_wp2_with fail
    go_ret
    exact ⟨rfl, 0, rfl⟩
  · go_wp2_with fail
    go_ret
    exact ⟨by simp, 0, rfl⟩
set_option maxRecDepth 100000 in
set_option maxHeartbeats 8000000 in
theorem standB_any (l : List Nd) (lv : Value) (kind : Int) (L K C F : Nat) (hkl : ∀ n ∈ l, n.kids.length < 1000000) (hg : ∀ (n : Nat), ∀ k ∈ (ndAt l (n : Int)).kids, 0 ≤ k ∧ k < (n : Int)) : ∀ (n : Nat), n < l.length → ∀ (w : World), NdsAt w lv l →
    Has w L 22 [lv] → Has w K 3 [.int .i64 kind] → Has w C 42 [.func (.func 20) #[] #[]] → Has w F 42 [standF L K C F] →
    Calls Tryz.prog 38 #[.int .i64 (n : Int), .pointer (some ⟨L, 0, none⟩), .pointer (some ⟨K, 0, none⟩), .pointer (some ⟨C, 0, none⟩), .pointer (some ⟨F, 0, none⟩)] w fun e w' => e = .returned (.bool (holdsV l kind false (n + 1) (n : Int))) ∧ ∃ m, w' = w.drewN m := by
  intro n
  induction n using Nat.strongRecOn with
  | ind n ih =>
    intro hlt w hn hL hK hC hF
    have IH : Hid (∀ m : Nat, m < n → ∀ W : World, W.heap = w.heap → Calls Tryz.prog 38 #[.int .i64 (m : Int), .pointer (some ⟨L, 0, none⟩), .pointer (some ⟨K, 0, none⟩), .pointer (some ⟨C, 0, none⟩), .pointer (some ⟨F, 0, none⟩)] W fun e w' => e = .returned (.bool (holdsV l kind false n (m : Int))) ∧ ∃ q, w' = W.drewN q) := Lib.hid fun m hm W hh => by
      have := ih m hm (by omega) W (hn.heap hh) (hL.heap hh) (hK.heap hh) (hC.heap hh) (hF.heap hh)
      rwa [← holdsV_enough hg m n hm] at this
    clear ih
    obtain ⟨av, cv, rfl⟩ := hn.shape
    obtain ⟨b, o, kv, rfl, hb, c0, c1, c2, c3, c4⟩ := hn.at n hlt
    have HN : Hid (∀ m (hm : m < l.length), ∃ kv, TreeD.NdCells w b o m kv l[m]) := Lib.hid fun m hm => by
      obtain ⟨b2, o2, kv2, e, -, h⟩ := hn.at m hm
      injection e with e
      injection e with e1 e2
      subst e1 e2
      exact ⟨kv2, h⟩
    have hx := ndAt_of hlt
    have hks := hg n
    have hkn := hkl l[n] (List.getElem_mem hlt)
    have HV := Lib.hid (holdsV_succ l kind false n (n : Int))
    unfold TreeD.kindAt at HV
    rw [hx] at HV hks
    generalize l[n] = x at c0 c1 c2 c3 c4 hks hkn HV
    obtain ⟨xk, xt, ks, xp⟩ := x
    simp only at c0 c1 c2 c3 c4 hks hkn HV
    rw [HV.out]
    clear HV hx hn hg hkl c1 c3
    have HKs := Lib.hid hks
    clear hks
    obtain ⟨ak, ck, rfl, hkk⟩ := c4
    have HKk := Lib.hid hkk
    clear hkk
    obtain ⟨len, hlen⟩ : ∃ len, l.length = len := ⟨_, rfl⟩
    have HLen := Lib.hid hlen
    have pL := hL.cell 0
    have pK := hK.cell 0
    have pC := hC.cell 0
    have pF := hF.cell 0
    have lL := hL.lt
    have lK := hK.lt
    have lC := hC.lt
    have lF := hF.lt
    simp only [List.getElem?_cons_zero, standF] at pL pK pC pF
    rw [hlen] at hlt pL
    clear hlen hL hK hC hF
    have hni : (n : Int) < (len : Int) := by omega
    have hn0 : (0 : Int) ≤ (n : Int) := by omega
    have HCell : Hid (∀ W : World, W.heap = w.heap → W.cell? ⟨L, 0, none⟩ = some (.slice (some ⟨b, o, none⟩) len cv) ∧ W.cell? ⟨K, 0, none⟩ = some (.int .i64 kind) ∧ W.cell? ⟨C, 0, none⟩ = some (.func (.func 20) #[] #[]) ∧ W.cell? ⟨F, 0, none⟩ = some (.func (.func 38) #[] #[.pointer (some ⟨L, 0, none⟩), .pointer (some ⟨K, 0, none⟩), .pointer (some ⟨C, 0, none⟩), .pointer (some ⟨F, 0, none⟩)]) ∧
        W.cell? ⟨b, o + n * 4 + 2, none⟩ = some (.slice ak ks.length ck) ∧ L < W.heap.size ∧ K < W.heap.size ∧ C < W.heap.size ∧ F < W.heap.size ∧ b < W.heap.size) := Lib.hid fun W hh =>
      ⟨(cellH hh _).trans pL, (cellH hh _).trans pK, (cellH hh _).trans pC, (cellH hh _).trans pF, (cellH hh _).trans c2, ltH hh lL, ltH hh lK, ltH hh lC, ltH hh lF, ltH hh hb⟩
    go_enter Tryz.func38, Tryz.ntmps38
    by_cases hk : xk = kind
    · have bk : (xk == kind) = true := by simpa using hk
      have HT : Hid (decide (xk = kind) = true) := Lib.hid (by simpa using hk)
      rw [HT.out]
      clear HCell HKs HKk HN IH hk HT
      go_wp2
      go_quiet (fail)
      go_wp2
      go_ret
      exact ⟨by simp, _, rfl⟩
    · have bk : (xk == kind) = false := by simpa using hk
      have HT : Hid (decide (xk = kind) = false) := Lib.hid (by simpa using hk)
      rw [HT.out, Bool.false_or]
      clear hk HT
      go_wp2
      go_quiet (fail)
      obtain ⟨W1, hm⟩ : ∃ W1, w.drewN nq = W1 := ⟨_, rfl⟩
      have hh1 : W1.heap = w.heap := by rw [← hm]; rfl
      rw [hm]
      obtain ⟨u1, u2, u3, u4, u5, u6, u7, u8, u9, u10⟩ := HCell.out W1 hh1
      have HM1 := Lib.hid hm
      clear hm hh1 pL pK pC pF lL lK lC lF c0 c2 bk u2 u3 u4 u7 u8 u9
      go_wp2
      go_loopw [22] (fun i wr => ∃ k q : Nat, i = .int .i64 (k : Int) ∧ k ≤ ks.length ∧ Hid (wr = w.drewN q) ∧ Hid ((ks.take k).any (kidB l kind false n) = false)) (fun i _ => ks.length - (intOf i).toNat)
      case atStart => exact ⟨0, nq, rfl, Nat.zero_le _, Lib.hid HM1.out.symm, Lib.hid rfl⟩
      case round =>
        obtain ⟨k, q, rfl, hkl, HW, HA⟩ := hrel
        have hh : wr.heap = w.heap := by rw [HW.out]; rfl
        obtain ⟨v1, v2, v3, v4, v5, v6, v7, v8, v9, v10⟩ := HCell.out wr hh
        by_cases hlt2 : k < ks.length
        · have hi1 : (k : Int) < (ks.length : Int) := by omega
          have hmem := HKs.out ks[k] (List.getElem_mem hlt2)
          have HT : Hid ((ks.take (k + 1)).any (kidB l kind false n) = (kidB l kind false n ks[k])) := Lib.hid (by
            rw [List.take_succ_eq_append_getElem hlt2, List.any_append, HA.out]
            simp)
          have HM : Hid (kidB l kind false n ks[k] = true → ks.any (kidB l kind false n) = true) := Lib.hid fun h => List.any_eq_true.2 ⟨_, List.getElem_mem hlt2, h⟩
          rcases HKk.out with e | ⟨g, o2, rfl, hg2, hc2⟩
          · rw [e] at hlt2
            simp at hlt2
          have d0 := (cellH hh _).trans (hc2 k _ (List.getElem?_eq_getElem hlt2))
          have hg3 := ltH hh hg2
          clear hc2 hg2
          generalize ks[k] = y at hmem HT HM d0
          obtain ⟨y0, y1⟩ := hmem
          obtain ⟨m, rfl⟩ : ∃ m : Nat, y = (m : Int) := ⟨y.toNat, by omega⟩
          have hml : m < l.length := by rw [HLen.out]; omega
          obtain ⟨kv2, m0, -⟩ := HN.out m hml
          have m0 := (cellH hh _).trans m0
          have hmk : kindAt l (m : Int) = l[m].kind := by unfold TreeD.kindAt; rw [ndAt_of hml]
          have HR : Hid (∀ q2, Calls Tryz.prog 38 #[.int .i64 (m : Int), .pointer (some ⟨L, 0, none⟩), .pointer (some ⟨K, 0, none⟩), .pointer (some ⟨C, 0, none⟩), .pointer (some ⟨F, 0, none⟩)] (wr.drewN q2) fun e w' => e = .returned (.bool (holdsV l kind false n (m : Int))) ∧ ∃ q, w' = (wr.drewN q2).drewN q) := Lib.hid (fun q2 => IH.out m (by omega) (wr.drewN q2) hh)
          have HB : Hid (kidB l kind false n (m : Int) = ((!decide (l[m].kind = 22) && (false || !decide (l[m].kind = 9))) && holdsV l kind false n (m : Int))) := Lib.hid (by unfold kidB; rw [hmk])
          clear hmk
          generalize l[m].kind = mk at m0 HB
          generalize holdsV l kind false n (m : Int) = r at HR HB
          have hmi : (m : Int) < (len : Int) := by omega
          have HCl : Hid (∀ q2, Calls Tryz.prog 20 #[.int .i64 mk] (wr.drewN q2) fun e w' => e = .returned (.bool ((mk == 22) || (mk == 9))) ∧ ∃ q, w' = (wr.drewN q2).drewN q) := Lib.hid (fun q2 => closedB_any mk (wr.drewN q2))
          have HEnd : Hid (∀ q2, Hid (wr.drewN q2 = w.drewN (q + q2))) := Lib.hid (fun q2 => Lib.hid (by rw [HW.out, World.drewN_drewN]))
          clear HW hh IH HN HKs HCell
          by_cases h22 : mk = 22
          · subst h22
            simp only [BEq.rfl, Bool.true_or] at HCl
            skip
            have HF : Hid ((ks.take (k + 1)).any (kidB l kind false n) = false) := Lib.hid (HT.out.trans (by rw [HB.out]; simp))
            clear HB HT HM HR HA
            go_wp2
            go_quiet ((go_at_call 20; exact Calls.quiet_of (HCl.out _)))
            go_wp2
            go_roundw
            case rel => exact ⟨k + 1, _, by go_num, by omega, HEnd.out _, HF⟩
            case measure => simp [intOf]; omega
          · have hcv : (mk == 22) = false := by simp [h22]
            rw [hcv, Bool.false_or] at HCl
            clear hcv
            by_cases h9 : mk = 9
            · subst h9
              simp only [BEq.rfl] at HCl
              skip
              have HF : Hid ((ks.take (k + 1)).any (kidB l kind false n) = false) := Lib.hid (HT.out.trans (by rw [HB.out]; simp))
              clear HB HT HM HR HA
              go_wp2
              go_quiet ((go_at_call 20; exact Calls.quiet_of (HCl.out _)))
              go_wp2
              go_roundw
              case rel => exact ⟨k + 1, _, by go_num, by omega, HEnd.out _, HF⟩
              case measure => simp [intOf]; omega
            · have hcv : (mk == 9) = false := by simp [h9]
              rw [hcv] at HCl
              clear hcv
              skip
              cases r
              · have HF : Hid ((ks.take (k + 1)).any (kidB l kind false n) = false) := Lib.hid (HT.out.trans (by rw [HB.out]; simp))
                clear HB HT HM HA
                go_wp2
                go_quiet ((first | (go_at_call 20; exact Calls.quiet_of (HCl.out _)) | (go_at_call 38; exact Calls.quiet_of (HR.out _))))
                go_wp2
                go_roundw
                case rel => exact ⟨k + 1, _, by go_num, by omega, HEnd.out _, HF⟩
                case measure => simp [intOf]; omega
              · have HF := Lib.hid (HM.out (by rw [HB.out]; simp [h22, h9]))
                clear HB HT HM HA
                go_wp2
                go_quiet ((first | (go_at_call 20; exact Calls.quiet_of (HCl.out _)) | (go_at_call 38; exact Calls.quiet_of (HR.out _))))
                go_wp2
                go_ret
                exact ⟨by rw [HF.out]; rfl, _, (HEnd.out _).out⟩
        · have hkk : k = ks.length := by omega
          subst hkk
          have HF : Hid (ks.any (kidB l kind false n) = false) := Lib.hid (by
            have hA := HA.out
            rwa [List.take_length] at hA)
          have HW2 := HW
          clear HA HW hh HCell HKs HKk HN IH
          go_wp2
          go_ret
          exact ⟨by rw [HF.out]; rfl, q, HW2.out⟩
end ScD
end Go.Proofs.YtmdkocegnbcgmaaGreatDoor
namespace Go.Proofs.YtmdkocegnbcgmaaGreatDoor
open Go.RowKit ObjM
namespace ScD
open TreeD (Nd NdsAt KidsAt ndAt kindAt)
def endF (L F : Nat) : Value := .func (.func 22) #[] #[.pointer (some ⟨L, 0, none⟩), .pointer (some ⟨F, 0, none⟩)]
set_option maxRecDepth 100000 in
set_option maxHeartbeats 8000000 in
theorem endF_any (l : List Nd) (lv : Value) (L F : Nat) (hkl : ∀ n ∈ l, n.kids.length < 1000000) (hg : ∀ (n : Nat), ∀ k ∈ (ndAt l (n : Int)).kids, 0 ≤ k ∧ k < (n : Int)) (h3 : ∀ k, kindAt l k = 8 → (ndAt l k).kids.length = 3) : ∀ (n : Nat), n < l.length → ∀ (w : World), NdsAt w lv l → Has w L 22 [lv] → Has w F 42 [endF L F] →
    Calls Tryz.prog 22 #[.int .i64 (n : Int), .pointer (some ⟨L, 0, none⟩), .pointer (some ⟨F, 0, none⟩)] w fun e w' => e = .returned (.bool (endsV l (n + 1) (n : Int))) ∧ Below w.heap.size w w' := by
  intro n
  induction n using Nat.strongRecOn with
  | ind n ih =>
    intro hlt w hn hL hF
    have IH : Hid (∀ m : Nat, m < n → ∀ W, Below w.heap.size w W → Calls Tryz.prog 22 #[.int .i64 (m : Int), .pointer (some ⟨L, 0, none⟩), .pointer (some ⟨F, 0, none⟩)] W fun e w' => e = .returned (.bool (endsV l n (m : Int))) ∧ Below W.heap.size W w') := Lib.hid fun m hm W hb => by
      have := ih m hm (by omega) W (hn.below (Nat.le_refl _) hb) (hL.below hb hL.lt) (hF.below hb hF.lt)
      rwa [← endsV_enough hg h3 m n hm] at this
    clear ih
    obtain ⟨av, cv, rfl⟩ := hn.shape
    obtain ⟨b, o, kv, rfl, hb, c0, c1, c2, c3, c4⟩ := hn.at n hlt
    have HN : Hid (∀ m (hm : m < l.length), ∃ kv, TreeD.NdCells w b o m kv l[m]) := Lib.hid fun m hm => by
      obtain ⟨b2, o2, kv2, e, -, h⟩ := hn.at m hm
      injection e with e
      injection e with e1 e2
      subst e1 e2
      exact ⟨kv2, h⟩
    have hx := ndAt_of hlt
    have HG := Lib.hid hg
    have H3 := Lib.hid h3
    have HKn := Lib.hid hkl
    have hks := hg n
    have hkn := hkl l[n] (List.getElem_mem hlt)
    have HV := Lib.hid (endsV_succ l n (n : Int))
    unfold TreeD.kindAt at HV
    rw [hx] at HV hks
    generalize l[n] = x at c0 c1 c2 c3 c4 hks hkn HV
    obtain ⟨xk, xt, ks, xp⟩ := x
    simp only at c0 c1 c2 c3 c4 hks hkn HV
    rw [HV.out]
    clear HV hx hn hg h3 hkl c1 c3
    have HKs := Lib.hid hks
    clear hks
    obtain ⟨ak, ck, rfl, hkk⟩ := c4
    have HKk := Lib.hid hkk
    clear hkk
    obtain ⟨len, hlen⟩ : ∃ len, l.length = len := ⟨_, rfl⟩
    have HLen := Lib.hid hlen
    have pL := hL.cell 0
    have pF := hF.cell 0
    have lL := hL.lt
    have lF := hF.lt
    simp only [List.getElem?_cons_zero, endF] at pL pF
    rw [hlen] at hlt pL
    have HF0 := Lib.hid hF
    clear hlen hL hF
    have hn0 : (0 : Int) ≤ (n : Int) := by omega
    have hni : (n : Int) < (len : Int) := by omega
    go_enter Tryz.func22, Tryz.ntmps22
    by_cases hk : xk = 3
    · subst hk
      obtain ⟨q, hq⟩ | hq : (∃ q, ks.length = q + 1) ∨ ks.length = 0 := by
        cases ks with
        | nil => exact .inr rfl
        | cons a r => exact .inl ⟨r.length, rfl⟩
      · rcases HKk.out with e | ⟨g, o2, rfl, hg2, hc2⟩
        · rw [e] at hq
          simp at hq
        have hqk : q < ks.length := by omega
        have hmem := HKs.out ks[q] (List.getElem_mem hqk)
        have d0 := hc2 q _ (List.getElem?_eq_getElem hqk)
        have HLast : Hid (ks.getLastD 0 = ks[q]) := Lib.hid (by
          rw [List.getLastD_eq_getLast?, List.getLast?_eq_getElem?, hq, Nat.add_sub_cancel, List.getElem?_eq_getElem hqk, Option.getD_some])
        have HE : Hid (ks.isEmpty = false) := Lib.hid (by cases ks <;> simp_all)
        clear hc2
        generalize ks[q] = y at hmem d0 HLast
        obtain ⟨y0, y1⟩ := hmem
        obtain ⟨m, rfl⟩ : ∃ m : Nat, y = (m : Int) := ⟨y.toNat, by omega⟩
        rw [HLast.out, HE.out]
        rw [hq] at c2
        have hml : m < l.length := by rw [HLen.out]; omega
        obtain ⟨kv2, m0, m1, m2, m3, m4⟩ := HN.out m hml
        have hq2 : q < 1000000 := by omega
        have HLs : Hid (lastB l n (m : Int) = (decide (l[m].kind = 10) || (decide (l[m].kind = 8) && (endsV l n (l[m].kids.getD 1 0) && endsV l n (l[m].kids.getD 2 0))))) := Lib.hid (by unfold lastB TreeD.kindAt; rw [ndAt_of hml])
        have H38 := H3.out (m : Int)
        have HGm := HG.out m
        unfold TreeD.kindAt at H38
        rw [ndAt_of hml] at H38 HGm
        generalize l[m] = z at m0 m1 m2 m3 m4 HLs H38 HGm
        obtain ⟨zk, zt, zs, zp⟩ := z
        simp only at m0 m1 m2 m3 m4 HLs H38 HGm
        rw [HLs.out]
        have HZ := Lib.hid H38
        have HGz := Lib.hid HGm
        clear HLs hq hqk HKs HLast HE H38 HGm
        obtain ⟨az, cz, rfl, hzz⟩ := m4
        have HZc := Lib.hid hzz
        clear hzz
        have hw1 : IntKind.i64.wrap ((q : Int) + 1 - 1) = (q : Int) := by rw [show (q : Int) + 1 - 1 = q by omega]; exact IntWalk.i64_in _ (by omega)
        have hw2 : IntKind.i64.wrap (q : Int) = (q : Int) := IntWalk.i64_in _ (by omega)
        have hq0 : (0 : Int) ≤ (q : Int) := by omega
        have hq3 : (q : Int) < (q : Int) + 1 := by omega
        have hq4 : ¬ (q : Int) + 1 = 0 := by omega
        have hmi : (m : Int) < (len : Int) := by omega
        have hm0 : (0 : Int) ≤ (m : Int) := by omega
        obtain ⟨W1, hW1⟩ : ∃ W1, (w.alloc (.cells #[.int .i64 zk, .string zt, .slice az zs.length cz, .int .i64 zp] 40)).drew = W1 := ⟨_, rfl⟩
        have HW1 := Lib.hid hW1
        have hA : Below w.heap.size w W1 := by rw [← hW1]; exact ((Below.refl _ w).alloc (Nat.le_refl _) _).drew
        have hN1 : Has W1 w.heap.size 40 [.int .i64 zk, .string zt, .slice az zs.length cz, .int .i64 zp] := by rw [← hW1]; exact Has.new w _ _
        have hF1 := HF0.out.below hA HF0.out.lt
        have HA := Lib.hid hA
        have n0 := hN1.cell 0
        have n2 := hN1.cell 2
        have n3 := hN1.lt
        simp only [List.getElem?_cons_zero, List.getElem?_cons_succ] at n0 n2
        clear hW1
        have hqe : ((q : Int) + 1 == 0) = false := by simp; omega
        by_cases h10 : zk = 10
        · subst h10
          clear HZ
          go_wp2
          go_region
          rw [HW1.out]
          go_wp2
          go_ret
          exact ⟨by simp, HA.out⟩
        · by_cases h8 : zk = 8
          · subst h8
            have hz3 := HZ.out rfl
            match zs, hz3 with
            | [e0, e1, e2], _ =>
              rcases HZc.out with e | ⟨g3, o3, rfl, hg3, hc3⟩
              · cases e
              have k1 := hc3 1 e1 rfl
              have k2 := hc3 2 e2 rfl
              clear hc3
              obtain ⟨p0, p1⟩ := HGz.out e1 (by simp)
              obtain ⟨p2, p3⟩ := HGz.out e2 (by simp)
              obtain ⟨j1, rfl⟩ : ∃ m : Nat, e1 = (m : Int) := ⟨e1.toNat, by omega⟩
              obtain ⟨j2, rfl⟩ : ∃ m : Nat, e2 = (m : Int) := ⟨e2.toNat, by omega⟩
              have H1 := Lib.hid (fun W hb => IH.out j1 (by omega) W hb)
              have H2 := Lib.hid (fun W hb => IH.out j2 (by omega) W hb)
              have HKp : Hid (∀ W', Below W1.heap.size W1 W' → W'.cell? ⟨F, 0, none⟩ = some (.func (.func 22) #[] #[.pointer (some ⟨L, 0, none⟩), .pointer (some ⟨F, 0, none⟩)]) ∧ W'.cell? ⟨w.heap.size, 2, none⟩ = some (.slice (some ⟨g3, o3, none⟩) 3 cz) ∧ W'.cell? ⟨g3, o3 + 1, none⟩ = some (.int .i64 (j1 : Int)) ∧ W'.cell? ⟨g3, o3 + 2, none⟩ = some (.int .i64 (j2 : Int))) := Lib.hid fun W' hb => by
                refine ⟨(hF1.below hb hF1.lt).cell 0, (hN1.below hb hN1.lt).cell 2, ?_, ?_⟩
                · exact ((HA.out.trans (hb.mono HA.out.size)).cell (p := ⟨g3, o3 + 1, none⟩) hg3).trans k1
                · exact ((HA.out.trans (hb.mono HA.out.size)).cell (p := ⟨g3, o3 + 2, none⟩) hg3).trans k2
              have HB0 : Hid (Below W1.heap.size W1 W1.drew) := Lib.hid ((Below.refl _ W1).drew)
              have HSt : Hid (∀ W', Below W1.heap.size W1 W' → Below w.heap.size w W') := Lib.hid fun W' hb => HA.out.trans (hb.mono HA.out.size)
              have HSt2 : Hid (∀ W' W'', Below W1.heap.size W1 W' → Below W'.heap.size W' W'' → Below W1.heap.size W1 W'') := Lib.hid fun W' W'' hb hb2 => hb.trans (hb2.mono hb.size)
              obtain ⟨q0, q1, q2, q3⟩ := HKp.out W1 (Below.refl _ _)
              have lF1 := hF1.lt
              have lg3 : g3 < W1.heap.size := Nat.lt_of_lt_of_le hg3 HA.out.size
              simp only [List.getD_cons_succ, List.getD_cons_zero, List.length_cons, List.length_nil] at H1 H2 HW1 ⊢
              generalize endsV l n (j1 : Int) = r1 at H1 ⊢
              generalize endsV l n (j2 : Int) = r2 at H2 ⊢
              clear HZ HZc HGz IH HN hN1 hF1 hA
              cases r1
              · go_wp2
                go_region
                rw [HW1.out]
                go_wp2
                refine wp_region_held_drew (S := fun W' => W'.cell? ⟨F, 0, none⟩ = some (.func (.func 22) #[] #[.pointer (some ⟨L, 0, none⟩), .pointer (some ⟨F, 0, none⟩)]) ∧ W'.cell? ⟨w.heap.size, 2, none⟩ = some (.slice (some ⟨g3, o3, none⟩) 3 cz) ∧ W'.cell? ⟨g3, o3 + 1, none⟩ = some (.int .i64 (j1 : Int)) ∧ W'.cell? ⟨g3, o3 + 2, none⟩ = some (.int .i64 (j2 : Int))) (by kernel_rfl) (HKp.out _ HB0.out) (fun _ => ?_)
                refine wpAnyH_take (i := 0) (oi := { dst := some 38, op := Op.load 42 (.tmp 2), type := _, pos := _, after := _, guard := _ }) (v := .func (.func 22) #[] #[.pointer (some ⟨L, 0, none⟩), .pointer (some ⟨F, 0, none⟩)]) rfl (by kernel_rfl) (by kernel_rfl) (by kernel_rfl) (fun _ _ _ h => h) (Or.inl ⟨by rfl, ?_⟩) (HKp.out _ HB0.out) ?_
                · intro w' hs
                  obtain ⟨c0, c1, c2, c3⟩ := hs
                  go_simp
                try simp only [Act.put, List.setIfInBounds_toArray, List.set_cons_zero, List.set_cons_succ]
                refine wpAnyH_take (i := 1) (oi := { dst := some 39, op := Op.fieldAddr 40 (.tmp 6) 2, type := _, pos := _, after := _, guard := _ }) (v := .pointer (some ⟨w.heap.size, 2, none⟩)) rfl (by kernel_rfl) (by kernel_rfl) (by kernel_rfl) (fun _ _ _ h => h) (Or.inl ⟨by rfl, ?_⟩) (HKp.out _ HB0.out) ?_
                · intro w' hs
                  obtain ⟨c0, c1, c2, c3⟩ := hs
                  go_simp
                try simp only [Act.put, List.setIfInBounds_toArray, List.set_cons_zero, List.set_cons_succ]
                refine wpAnyH_take (i := 2) (oi := { dst := some 40, op := Op.load 31 (.tmp 39), type := _, pos := _, after := _, guard := _ }) (v := .slice (some ⟨g3, o3, none⟩) 3 cz) rfl (by kernel_rfl) (by kernel_rfl) (by kernel_rfl) (fun _ _ _ h => h) (Or.inl ⟨by rfl, ?_⟩) (HKp.out _ HB0.out) ?_
                · intro w' hs
                  obtain ⟨c0, c1, c2, c3⟩ := hs
                  go_simp
                try simp only [Act.put, List.setIfInBounds_toArray, List.set_cons_zero, List.set_cons_succ]
                refine wpAnyH_take (i := 3) (oi := { dst := some 41, op := Op.indexAddr 31 (.tmp 40) (.const (.int .i64 1)), type := _, pos := _, after := _, guard := _ }) (v := .pointer (some ⟨g3, o3 + 1, none⟩)) rfl (by kernel_rfl) (by kernel_rfl) (by kernel_rfl) (fun _ _ _ h => h) (Or.inl ⟨by rfl, ?_⟩) (HKp.out _ HB0.out) ?_
                · intro w' hs
                  obtain ⟨c0, c1, c2, c3⟩ := hs
                  go_simp
                try simp only [Act.put, List.setIfInBounds_toArray, List.set_cons_zero, List.set_cons_succ]
                refine wpAnyH_take (i := 4) (oi := { dst := some 42, op := Op.load 3 (.tmp 41), type := _, pos := _, after := _, guard := _ }) (v := .int .i64 (j1 : Int)) rfl (by kernel_rfl) (by kernel_rfl) (by kernel_rfl) (fun _ _ _ h => h) (Or.inl ⟨by rfl, ?_⟩) (HKp.out _ HB0.out) ?_
                · intro w' hs
                  obtain ⟨c0, c1, c2, c3⟩ := hs
                  go_simp
                try simp only [Act.put, List.setIfInBounds_toArray, List.set_cons_zero, List.set_cons_succ]
                refine wpAnyH_ready (rs := [5]) (by kernel_rfl) (by simp) ?_
                refine AllReadyH.cons (o := { dst := some 43, op := Op.call { callee := .value (.tmp 38), args := #[.tmp 42], argTypes := _ }, type := _, pos := _, after := _, guard := _ }) rfl (fun K hK => ?_) AllReadyH.nil
                go_simp
                refine (H1.out _ (HSt.out _ HB0.out)).mono ?_
                rintro e w3 ⟨rfl, hb1⟩
                have HB1 := Lib.hid (HSt2.out _ _ HB0.out hb1)
                refine hK.out _ _ (HKp.out _ HB1.out) (fun _ => ?_)
                clear hK K hb1
                try simp only [Act.put, List.setIfInBounds_toArray, List.set_cons_zero, List.set_cons_succ]
                refine wpAnyH_take (i := 6) (oi := { dst := some 44, op := Op.move (.tmp 43), type := _, pos := _, after := _, guard := _ }) (v := .bool false) rfl (by kernel_rfl) (by kernel_rfl) (by kernel_rfl) (fun _ _ _ h => h) (Or.inl ⟨by rfl, ?_⟩) (HKp.out _ HB1.out) ?_
                · intro w' hs
                  obtain ⟨c0, c1, c2, c3⟩ := hs
                  go_simp
                try simp only [Act.put, List.setIfInBounds_toArray, List.set_cons_zero, List.set_cons_succ]
                refine wpAnyH_take (i := 7) (oi := { dst := some 45, op := Op.load 42 (.tmp 2), type := _, pos := _, after := _, guard := _ }) (v := undef) rfl (by kernel_rfl) (by kernel_rfl) (by kernel_rfl) (fun _ _ _ h => h) (Or.inr ⟨by rfl, rfl⟩) (HKp.out _ HB1.out) ?_
                try simp only [Act.put, List.setIfInBounds_toArray, List.set_cons_zero, List.set_cons_succ]
                refine wpAnyH_take (i := 8) (oi := { dst := some 46, op := Op.fieldAddr 40 (.tmp 6) 2, type := _, pos := _, after := _, guard := _ }) (v := undef) rfl (by kernel_rfl) (by kernel_rfl) (by kernel_rfl) (fun _ _ _ h => h) (Or.inr ⟨by rfl, rfl⟩) (HKp.out _ HB1.out) ?_
                try simp only [Act.put, List.setIfInBounds_toArray, List.set_cons_zero, List.set_cons_succ]
                refine wpAnyH_take (i := 9) (oi := { dst := some 47, op := Op.load 31 (.tmp 46), type := _, pos := _, after := _, guard := _ }) (v := undef) rfl (by kernel_rfl) (by kernel_rfl) (by kernel_rfl) (fun _ _ _ h => h) (Or.inr ⟨by rfl, rfl⟩) (HKp.out _ HB1.out) ?_
                try simp only [Act.put, List.setIfInBounds_toArray, List.set_cons_zero, List.set_cons_succ]
                refine wpAnyH_take (i := 10) (oi := { dst := some 48, op := Op.indexAddr 31 (.tmp 47) (.const (.int .i64 2)), type := _, pos := _, after := _, guard := _ }) (v := undef) rfl (by kernel_rfl) (by kernel_rfl) (by kernel_rfl) (fun _ _ _ h => h) (Or.inr ⟨by rfl, rfl⟩) (HKp.out _ HB1.out) ?_
                try simp only [Act.put, List.setIfInBounds_toArray, List.set_cons_zero, List.set_cons_succ]
                refine wpAnyH_take (i := 11) (oi := { dst := some 49, op := Op.load 3 (.tmp 48), type := _, pos := _, after := _, guard := _ }) (v := undef) rfl (by kernel_rfl) (by kernel_rfl) (by kernel_rfl) (fun _ _ _ h => h) (Or.inr ⟨by rfl, rfl⟩) (HKp.out _ HB1.out) ?_
                try simp only [Act.put, List.setIfInBounds_toArray, List.set_cons_zero, List.set_cons_succ]
                refine wpAnyH_take (i := 12) (oi := { dst := some 50, op := Op.call { callee := .value (.tmp 45), args := #[.tmp 49], argTypes := _ }, type := _, pos := _, after := _, guard := _ }) (v := undef) rfl (by kernel_rfl) (by kernel_rfl) (by kernel_rfl) (fun _ _ _ h => h) (Or.inr ⟨by rfl, rfl⟩) (HKp.out _ HB1.out) ?_
                try simp only [Act.put, List.setIfInBounds_toArray, List.set_cons_zero, List.set_cons_succ]
                refine wpAnyH_take (i := 13) (oi := { dst := some 51, op := Op.pick (.tmp 44) (.tmp 50) (.const (.bool false)), type := _, pos := _, after := _, guard := _ }) (v := .bool false) rfl (by kernel_rfl) (by kernel_rfl) (by kernel_rfl) (fun _ _ _ h => h) (Or.inl ⟨by rfl, ?_⟩) (HKp.out _ HB1.out) ?_
                · intro w' hs
                  obtain ⟨c0, c1, c2, c3⟩ := hs
                  go_simp
                try simp only [Act.put, List.setIfInBounds_toArray, List.set_cons_zero, List.set_cons_succ]
                refine wpAnyH_take (i := 14) (oi := { dst := some 4, op := Op.assign (.tmp 51), type := _, pos := _, after := _, guard := _ }) (v := .bool false) rfl (by kernel_rfl) (by kernel_rfl) (by kernel_rfl) (fun _ _ _ h => h) (Or.inl ⟨by rfl, ?_⟩) (HKp.out _ HB1.out) ?_
                · intro w' hs
                  obtain ⟨c0, c1, c2, c3⟩ := hs
                  go_simp
                try simp only [Act.put, List.setIfInBounds_toArray, List.set_cons_zero, List.set_cons_succ]
                refine wpAnyH_done (by kernel_rfl) ?_ _
                have HEnd := Lib.hid (HSt.out _ HB1.out)
                go_wp2_with fail
                go_ret
                exact ⟨by simp, HEnd.out⟩
              · go_wp2
                go_region
                rw [HW1.out]
                go_wp2
                go_region_held3 (fun W' => W'.cell? ⟨F, 0, none⟩ = some (.func (.func 22) #[] #[.pointer (some ⟨L, 0, none⟩), .pointer (some ⟨F, 0, none⟩)]) ∧ W'.cell? ⟨w.heap.size, 2, none⟩ = some (.slice (some ⟨g3, o3, none⟩) 3 cz) ∧ W'.cell? ⟨g3, o3 + 1, none⟩ = some (.int .i64 (j1 : Int)) ∧ W'.cell? ⟨g3, o3 + 2, none⟩ = some (.int .i64 (j2 : Int)))
                  (exact HKp.out _ (by first | exact HB0.out | exact HB1.out | exact HB2.out))
                  (first
                    | (go_at_call_of 22 (Value.int .i64 (j1 : Int))
                       refine (H1.out _ (HSt.out _ (by first | exact HB0.out))).mono ?_
                       rintro e w3 ⟨rfl, hb1⟩
                       have HB1 := Lib.hid (HSt2.out _ _ (by exact HB0.out) hb1)
                       clear hb1)
                    | (go_at_call_of 22 (Value.int .i64 (j2 : Int))
                       refine (H2.out _ (HSt.out _ (by first | exact HB1.out))).mono ?_
                       rintro e w4 ⟨rfl, hb2⟩
                       have HB2 := Lib.hid (HSt2.out _ _ (by exact HB1.out) hb2)
                       clear hb2))
                have HEnd := Lib.hid (HSt.out _ HB2.out)
                go_wp2_with fail
                go_ret
                exact ⟨by simp, HEnd.out⟩
          · clear HZ
            go_wp2
            go_region
            rw [HW1.out]
            go_wp2
            go_ret
            exact ⟨by simp [h8, h10], HA.out⟩
      · have hkn : ks = [] := List.eq_nil_of_length_eq_zero hq
        subst hkn
        simp only [List.length_nil] at c2
        clear hq HKs HKk
        go_wp2_with fail
        go_ret
        exact ⟨by simp, Below.refl _ _⟩
    · go_wp2_with fail
      go_ret
      exact ⟨by simp [hk], Below.refl _ _⟩
end ScD
end Go.Proofs.YtmdkocegnbcgmaaGreatDoor
namespace Go.Proofs.YtmdkocegnbcgmaaGreatDoor
open Go.RowKit ObjM
namespace ScD
open TreeD (Nd NdsAt KidsAt ndAt kindAt)
theorem fits_in {l : List Nd} {n : Int} (h : fitsB l n = true) : ∃ m : Nat, n = (m : Int) ∧ m < l.length ∧ (TreeD.checkV l).2 = 0 := by
  unfold fitsB at h
  simp only [Bool.and_eq_true, decide_eq_true_eq] at h
  exact ⟨n.toNat, by omega, by omega, h.2.2⟩
/-- What a list of nodes is held to be. -/
structure Fine (w : World) (lv : Value) (l : List Nd) : Prop where
  len : l.length ≤ 50000
  ok : ∀ n ∈ l, TreeD.NdOk n
  kids : ∀ n ∈ l, n.kids.length < 1000000
  still : TreeD.Still w lv l
theorem Fine.below {w W : World} {lv : Value} {l : List Nd} (h : Fine w lv l) (hb : Below w.heap.size w W) : Fine W lv l := ⟨h.len, h.ok, h.kids, h.still.below (Nat.le_refl _) hb⟩
noncomputable def inV (l : List Nd) (kind : Int) (loops : Bool) (n : Int) : Bool := fitsB l n && holdsV l kind loops (n.toNat + 1) n
noncomputable def atEndV (l : List Nd) (n : Int) : Bool := fitsB l n && endsV l (n.toNat + 1) n
theorem three_boxes (w : World) (x0 x1 x2 : Value) (t0 t1 t2 : TypeId) (W : World) (hW : ((w.alloc (.cells #[x0] t0)).alloc (.cells #[x1] t1)).alloc (.cells #[x2] t2) = W) :
    Has W w.heap.size t0 [x0] ∧ Has W (w.heap.size + 1) t1 [x1] ∧ Has W (w.heap.size + 1 + 1) t2 [x2] ∧ Below w.heap.size w W := by
  subst hW
  have b2 := Has.new (w.alloc (.cells #[x0] t0)) t1 [x1]
  have b3 := Has.new ((w.alloc (.cells #[x0] t0)).alloc (.cells #[x1] t1)) t2 [x2]
  simp only [World.size_alloc] at b2 b3
  exact ⟨((Has.new w t0 [x0]).keeps (Keeps.alloc [] _ _) (by simp)).keeps (Keeps.alloc [] _ _) (by simp), b2.keeps (Keeps.alloc [] _ _) (by simp), b3, (((Below.refl _ w).alloc (Nat.le_refl _) _).alloc (by simp) _).alloc (by simp; omega) _⟩
set_option maxRecDepth 100000 in
set_option maxHeartbeats 8000000 in
theorem standsR_any (w : World) (lv : Value) (l : List Nd) (n kind : Int) (hn1 : -9223372036854775808 ≤ n) (hn2 : n ≤ 9223372036854775807) (hF : Fine w lv l) :
    Calls Tryz.prog 16 #[lv, .int .i64 n, .int .i64 kind, .func (.func 17) #[] #[]] w fun e w' => e = .returned (.bool (inV l kind true n)) ∧ Below w.heap.size w w' := by
  have hmf : ∀ (fn : Fn) (first cap : Array Value) (w : World), (Instr.makeFunc fn first cap).run Tryz.prog w = .ok (.func fn first cap) w := fun _ _ _ _ => rfl
  obtain ⟨W0, hW0⟩ : ∃ W0, ((w.alloc (.cells #[lv] 22)).alloc (.cells #[.int .i64 kind] 3)).alloc (.cells #[.func (.func 17) #[] #[]] 42) = W0 := ⟨_, rfl⟩
  obtain ⟨h0, h1, h2, hb⟩ := three_boxes w _ _ _ _ _ _ W0 hW0
  have HW0 := Lib.hid hW0
  have hF0 := hF.below hb
  have HFi := Lib.hid (fits_any W0 lv l n hn1 hn2 hF0.len hF0.ok hF0.kids hF0.still)
  have HB0 := Lib.hid hb
  have x0 := h0.cell 0
  have y0 := h0.lt
  simp only [List.getElem?_cons_zero] at x0
  have HHas := Lib.hid (⟨h0, h1, h2, hF0⟩ : _ ∧ _ ∧ _ ∧ _)
  clear hW0 hb hF hF0
  obtain ⟨R, hR⟩ : ∃ R, inV l kind true n = R := ⟨_, rfl⟩
  have HT : Hid (R = (fitsB l n && holdsV l kind true (n.toNat + 1) n)) := Lib.hid (by rw [← hR]; rfl)
  rw [hR]
  clear hR
  obtain ⟨av, cv, hlv⟩ := HHas.out.2.2.2.still.nds.shape
  subst hlv
  go_enter Tryz.func16, Tryz.ntmps16
  go_wp2_with fail
  rw [HW0.out]
  refine HFi.out.mono ?_
  rintro e w1 ⟨rfl, hb1⟩
  have HB1 := Lib.hid (HB0.out.trans (hb1.mono HB0.out.size))
  cases hfit : fitsB l n
  · have HR : Hid (R = false) := Lib.hid (by rw [HT.out, hfit]; rfl)
    obtain rfl := HR.out
    clear HFi HW0 HT HHas hb1 hfit
    go_wp2_with fail
    go_ret
    exact ⟨rfl, HB1.out⟩
  · obtain ⟨m, rfl, hm, hc⟩ := fits_in hfit
    have hD := (TreeD.tree_of hc).done
    have g0 := h0.below hb1 h0.lt
    have g1 := h1.below hb1 h1.lt
    have g2 := h2.below hb1 h2.lt
    have gF := HHas.out.2.2.2.below hb1
    have ka := Keeps.alloc [] w1 (.cells #[standF w.heap.size (w.heap.size + 1) (w.heap.size + 1 + 1) w1.heap.size] 42)
    have ba : Below w1.heap.size w1 (w1.alloc (.cells #[standF w.heap.size (w.heap.size + 1) (w.heap.size + 1 + 1) w1.heap.size] 42)) := (Below.refl _ w1).alloc (Nat.le_refl _) _
    have HR : Hid (R = holdsV l kind true (m + 1) (m : Int)) := Lib.hid (by rw [HT.out, hfit, Int.toNat_natCast]; rfl)
    have HS := Lib.hid (standR_any l _ kind w.heap.size (w.heap.size + 1) (w.heap.size + 1 + 1) w1.heap.size gF.kids (kids_of hD) m hm _ (gF.below ba).still.nds (g0.below ba g0.lt) (g1.below ba g1.lt) (g2.below ba g2.lt) (Has.new w1 42 [standF w.heap.size (w.heap.size + 1) (w.heap.size + 1 + 1) w1.heap.size]))
    have HEnd : Hid (∀ q, Below w.heap.size w ((w1.alloc (.cells #[standF w.heap.size (w.heap.size + 1) (w.heap.size + 1 + 1) w1.heap.size] 42)).drewN q)) := Lib.hid fun q => by
      have := HB1.out.trans (ba.mono HB1.out.size)
      exact ⟨this.os, this.tape, this.output, this.size, fun k hk => this.block k hk⟩
    have y1 := g1.lt
    have y2 := g2.lt
    have y3 := g0.lt
    obtain rfl := HR.out
    unfold standF at HS HEnd
    clear HFi HW0 HT HHas hb1 hfit g0 g1 g2 gF ka ba h0 h1 h2 hD HR hc
    go_wp2_with fail
    refine HS.out.mono ?_
    rintro e w2 ⟨rfl, q, hq⟩
    have HE : Hid (Below w.heap.size w w2) := Lib.hid (by rw [hq]; exact HEnd.out q)
    clear hq HS HEnd
    go_wp2_with fail
    go_ret
    exact ⟨rfl, HE.out⟩
set_option maxRecDepth 100000 in
set_option maxHeartbeats 8000000 in
theorem standsB_any (w : World) (lv : Value) (l : List Nd) (n kind : Int) (hn1 : -9223372036854775808 ≤ n) (hn2 : n ≤ 9223372036854775807) (hF : Fine w lv l) :
    Calls Tryz.prog 16 #[lv, .int .i64 n, .int .i64 kind, .func (.func 20) #[] #[]] w fun e w' => e = .returned (.bool (inV l kind false n)) ∧ Below w.heap.size w w' := by
  have hmf : ∀ (fn : Fn) (first cap : Array Value) (w : World), (Instr.makeFunc fn first cap).run Tryz.prog w = .ok (.func fn first cap) w := fun _ _ _ _ => rfl
  obtain ⟨W0, hW0⟩ : ∃ W0, ((w.alloc (.cells #[lv] 22)).alloc (.cells #[.int .i64 kind] 3)).alloc (.cells #[.func (.func 20) #[] #[]] 42) = W0 := ⟨_, rfl⟩
  obtain ⟨h0, h1, h2, hb⟩ := three_boxes w _ _ _ _ _ _ W0 hW0
  have HW0 := Lib.hid hW0
  have hF0 := hF.below hb
  have HFi := Lib.hid (fits_any W0 lv l n hn1 hn2 hF0.len hF0.ok hF0.kids hF0.still)
  have HB0 := Lib.hid hb
  have x0 := h0.cell 0
  have y0 := h0.lt
  simp only [List.getElem?_cons_zero] at x0
  have HHas := Lib.hid (⟨h0, h1, h2, hF0⟩ : _ ∧ _ ∧ _ ∧ _)
  clear hW0 hb hF hF0
  obtain ⟨R, hR⟩ : ∃ R, inV l kind false n = R := ⟨_, rfl⟩
  have HT : Hid (R = (fitsB l n && holdsV l kind false (n.toNat + 1) n)) := Lib.hid (by rw [← hR]; rfl)
  rw [hR]
  clear hR
  obtain ⟨av, cv, hlv⟩ := HHas.out.2.2.2.still.nds.shape
  subst hlv
  go_enter Tryz.func16, Tryz.ntmps16
  go_wp2_with fail
  rw [HW0.out]
  refine HFi.out.mono ?_
  rintro e w1 ⟨rfl, hb1⟩
  have HB1 := Lib.hid (HB0.out.trans (hb1.mono HB0.out.size))
  cases hfit : fitsB l n
  · have HR : Hid (R = false) := Lib.hid (by rw [HT.out, hfit]; rfl)
    obtain rfl := HR.out
    clear HFi HW0 HT HHas hb1 hfit
    go_wp2_with fail
    go_ret
    exact ⟨rfl, HB1.out⟩
  · obtain ⟨m, rfl, hm, hc⟩ := fits_in hfit
    have hD := (TreeD.tree_of hc).done
    have g0 := h0.below hb1 h0.lt
    have g1 := h1.below hb1 h1.lt
    have g2 := h2.below hb1 h2.lt
    have gF := HHas.out.2.2.2.below hb1
    have ka := Keeps.alloc [] w1 (.cells #[standF w.heap.size (w.heap.size + 1) (w.heap.size + 1 + 1) w1.heap.size] 42)
    have ba : Below w1.heap.size w1 (w1.alloc (.cells #[standF w.heap.size (w.heap.size + 1) (w.heap.size + 1 + 1) w1.heap.size] 42)) := (Below.refl _ w1).alloc (Nat.le_refl _) _
    have HR : Hid (R = holdsV l kind false (m + 1) (m : Int)) := Lib.hid (by rw [HT.out, hfit, Int.toNat_natCast]; rfl)
    have HS := Lib.hid (standB_any l _ kind w.heap.size (w.heap.size + 1) (w.heap.size + 1 + 1) w1.heap.size gF.kids (kids_of hD) m hm _ (gF.below ba).still.nds (g0.below ba g0.lt) (g1.below ba g1.lt) (g2.below ba g2.lt) (Has.new w1 42 [standF w.heap.size (w.heap.size + 1) (w.heap.size + 1 + 1) w1.heap.size]))
    have HEnd : Hid (∀ q, Below w.heap.size w ((w1.alloc (.cells #[standF w.heap.size (w.heap.size + 1) (w.heap.size + 1 + 1) w1.heap.size] 42)).drewN q)) := Lib.hid fun q => by
      have := HB1.out.trans (ba.mono HB1.out.size)
      exact ⟨this.os, this.tape, this.output, this.size, fun k hk => this.block k hk⟩
    have y1 := g1.lt
    have y2 := g2.lt
    have y3 := g0.lt
    obtain rfl := HR.out
    unfold standF at HS HEnd
    clear HFi HW0 HT HHas hb1 hfit g0 g1 g2 gF ka ba h0 h1 h2 hD HR hc
    go_wp2_with fail
    refine HS.out.mono ?_
    rintro e w2 ⟨rfl, q, hq⟩
    have HE : Hid (Below w.heap.size w w2) := Lib.hid (by rw [hq]; exact HEnd.out q)
    clear hq HS HEnd
    go_wp2_with fail
    go_ret
    exact ⟨rfl, HE.out⟩
set_option maxRecDepth 100000 in
set_option maxHeartbeats 4000000 in
theorem progReturns_any (w : World) (lv : Value) (l : List Nd) (n : Int) (hn1 : -9223372036854775808 ≤ n) (hn2 : n ≤ 9223372036854775807) (hF : Fine w lv l) :
    Calls Tryz.prog 7 #[lv, .int .i64 n] w fun e w' => e = .returned (.bool (inV l 10 true n)) ∧ Below w.heap.size w w' := by
  have HS := Lib.hid (standsR_any w lv l n 10 hn1 hn2 hF)
  obtain ⟨av, cv, hlv⟩ := hF.still.nds.shape
  subst hlv
  clear hF
  generalize inV l 10 true n = R at HS ⊢
  go_enter Tryz.func7, Tryz.ntmps7
  go_wp2_with fail
  refine HS.out.mono ?_
  rintro e w2 ⟨rfl, hb⟩
  have HB := Lib.hid hb
  clear HS hb
  go_wp2_with fail
  go_ret
  exact ⟨rfl, HB.out⟩
set_option maxRecDepth 100000 in
set_option maxHeartbeats 4000000 in
theorem progBreaks_any (w : World) (lv : Value) (l : List Nd) (n : Int) (hn1 : -9223372036854775808 ≤ n) (hn2 : n ≤ 9223372036854775807) (hF : Fine w lv l) :
    Calls Tryz.prog 9 #[lv, .int .i64 n] w fun e w' => e = .returned (.bool (inV l 11 false n)) ∧ Below w.heap.size w w' := by
  have HS := Lib.hid (standsB_any w lv l n 11 hn1 hn2 hF)
  obtain ⟨av, cv, hlv⟩ := hF.still.nds.shape
  subst hlv
  clear hF
  generalize inV l 11 false n = R at HS ⊢
  go_enter Tryz.func9, Tryz.ntmps9
  go_wp2_with fail
  refine HS.out.mono ?_
  rintro e w2 ⟨rfl, hb⟩
  have HB := Lib.hid hb
  clear HS hb
  go_wp2_with fail
  go_ret
  exact ⟨rfl, HB.out⟩
theorem one_box (w : World) (x0 : Value) (t0 : TypeId) : Has (w.alloc (.cells #[x0] t0)) w.heap.size t0 [x0] ∧ Below w.heap.size w (w.alloc (.cells #[x0] t0)) := ⟨Has.new w t0 [x0], (Below.refl _ w).alloc (Nat.le_refl _) _⟩
set_option maxRecDepth 100000 in
set_option maxHeartbeats 8000000 in
theorem progEnds_any (w : World) (lv : Value) (l : List Nd) (n : Int) (hn1 : -9223372036854775808 ≤ n) (hn2 : n ≤ 9223372036854775807) (hF : Fine w lv l) :
    Calls Tryz.prog 11 #[lv, .int .i64 n] w fun e w' => e = .returned (.bool (atEndV l n)) ∧ Below w.heap.size w w' := by
  have hmf : ∀ (fn : Fn) (first cap : Array Value) (w : World), (Instr.makeFunc fn first cap).run Tryz.prog w = .ok (.func fn first cap) w := fun _ _ _ _ => rfl
  obtain ⟨h0, hb⟩ := one_box w lv 22
  obtain ⟨W0, hW0⟩ : ∃ W0, w.alloc (.cells #[lv] 22) = W0 := ⟨_, rfl⟩
  rw [hW0] at h0 hb
  have HW0 := Lib.hid hW0
  have hF0 := hF.below hb
  have HFi := Lib.hid (fits_any W0 lv l n hn1 hn2 hF0.len hF0.ok hF0.kids hF0.still)
  have HB0 := Lib.hid hb
  have x0 := h0.cell 0
  have y0 := h0.lt
  simp only [List.getElem?_cons_zero] at x0
  have HHas := Lib.hid (⟨h0, hF0⟩ : _ ∧ _)
  clear hW0 hb hF hF0
  obtain ⟨R, hR⟩ : ∃ R, atEndV l n = R := ⟨_, rfl⟩
  have HT : Hid (R = (fitsB l n && endsV l (n.toNat + 1) n)) := Lib.hid (by rw [← hR]; rfl)
  rw [hR]
  clear hR
  obtain ⟨av, cv, hlv⟩ := HHas.out.2.still.nds.shape
  subst hlv
  go_enter Tryz.func11, Tryz.ntmps11
  go_wp2_with fail
  rw [HW0.out]
  refine HFi.out.mono ?_
  rintro e w1 ⟨rfl, hb1⟩
  have HB1 := Lib.hid (HB0.out.trans (hb1.mono HB0.out.size))
  cases hfit : fitsB l n
  · have HR : Hid (R = false) := Lib.hid (by rw [HT.out, hfit]; rfl)
    obtain rfl := HR.out
    clear HFi HW0 HT HHas hb1 hfit
    go_wp2_with fail
    go_ret
    exact ⟨rfl, HB1.out⟩
  · obtain ⟨m, rfl, hm, hc⟩ := fits_in hfit
    have hD := (TreeD.tree_of hc).done
    have g0 := h0.below hb1 h0.lt
    have gF := HHas.out.2.below hb1
    have ba : Below w1.heap.size w1 (w1.alloc (.cells #[endF w.heap.size w1.heap.size] 42)) := (Below.refl _ w1).alloc (Nat.le_refl _) _
    have HR : Hid (R = endsV l (m + 1) (m : Int)) := Lib.hid (by rw [HT.out, hfit, Int.toNat_natCast]; rfl)
    have HS := Lib.hid (endF_any l _ w.heap.size w1.heap.size gF.kids (kids_of hD) (three_of hD) m hm _ (gF.below ba).still.nds (g0.below ba g0.lt) (Has.new w1 42 [endF w.heap.size w1.heap.size]))
    have HEnd : Hid (Below w.heap.size w (w1.alloc (.cells #[endF w.heap.size w1.heap.size] 42))) := Lib.hid (HB1.out.trans (ba.mono HB1.out.size))
    have y3 := g0.lt
    obtain rfl := HR.out
    unfold endF at HS HEnd
    clear HFi HW0 HT HHas hb1 hfit g0 gF ba h0 hD HR hc
    go_wp2_with fail
    refine HS.out.mono ?_
    rintro e w2 ⟨rfl, hb2⟩
    have HE : Hid (Below w.heap.size w w2) := Lib.hid (HEnd.out.trans (hb2.mono HEnd.out.size))
    clear hb2 HS HEnd
    go_wp2_with fail
    go_ret
    exact ⟨rfl, HE.out⟩
end ScD
end Go.Proofs.YtmdkocegnbcgmaaGreatDoor
namespace Go.Proofs.YtmdkocegnbcgmaaGreatDoor
open Go.RowKit ObjM
namespace ScD
open TreeD (Nd NdsAt KidsAt ndAt kindAt)
theorem few_texts {l : List Nd} (h : fewSB l = true) : ∀ n ∈ l, n.text.size ≤ 1000000 := by
  unfold fewSB at h
  rw [decide_eq_true_eq] at h
  have key : ∀ l : List Nd, ∀ n ∈ l, n.text.size ≤ TreeD.fewN l := by
    intro l
    induction l with
    | nil => simp
    | cons a r ih =>
      have e : TreeD.fewN (a :: r) = TreeD.ndN a + TreeD.fewN r := by simp [TreeD.fewN]
      have e2 : TreeD.ndN a = 4 + a.kids.length + a.text.size := rfl
      intro n hn
      rcases List.mem_cons.1 hn with rfl | hn
      · omega
      · have := ih n hn
        omega
  intro n hn
  have := key l n hn
  omega
set_option maxRecDepth 100000 in
set_option maxHeartbeats 4000000 in
theorem good_any (w : World) (lv : Value) (l : List Nd) (n : Int) (hts : ∀ n ∈ l, n.text.size ≤ 1000000) (hF : Fine w lv l) :
    Calls Tryz.prog 18 #[lv, .int .i64 n] w fun e w' => e = .returned (.bool (fitsB l n)) ∧ Below w.heap.size w w' := by
  have HC := Lib.hid (TreeD.rcheck_any l lv w hF.len hF.ok hF.kids hts hF.still)
  unfold TreeD.CheckIs at HC
  obtain ⟨al, cl, rfl⟩ := hF.still.nds.shape
  clear hF hts
  obtain ⟨m, hm⟩ : ∃ m, l.length = m := ⟨_, rfl⟩
  have HF := Lib.hid (show fitsB l n = (decide (0 ≤ n) && (decide (n < (m : Int)) && decide ((TreeD.checkV l).2 = 0))) by rw [← hm]; rfl)
  rw [hm] at HC ⊢
  clear hm
  rw [HF.out]
  clear HF
  generalize TreeD.checkV l = cv at HC ⊢
  obtain ⟨x1, x2⟩ := cv
  go_enter Tryz.func18, Tryz.ntmps18
  go_wp2_with fail
  refine HC.out.mono ?_
  rintro e w1 ⟨rfl, hb⟩
  have HB := Lib.hid hb
  clear hb HC
  by_cases h4 : x2 = 0
  · subst h4
    by_cases h0 : n < 0
    · have h1 : ¬ 0 ≤ n := by omega
      go_wp2_with fail
      go_ret
      exact ⟨by simp; omega, HB.out⟩
    · have h1 : 0 ≤ n := by omega
      by_cases h2 : n < (m : Int)
      · go_wp2_with fail
        go_ret
        exact ⟨by simp, HB.out⟩
      · go_wp2_with fail
        go_ret
        exact ⟨by simp, HB.out⟩
  · have h5 : (x2 == 0) = false := by simp [h4]
    go_wp2_with fail
    go_ret
    exact ⟨by simp [h4], HB.out⟩
set_option maxRecDepth 100000 in
set_option maxHeartbeats 4000000 in
theorem refReturns_any (w : World) (lv : Value) (l : List Nd) (n : Int) (hts : ∀ n ∈ l, n.text.size ≤ 1000000) (hF : Fine w lv l) :
    Calls Tryz.prog 8 #[lv, .int .i64 n] w fun e w' => e = .returned (.bool (inV l 10 true n)) ∧ Below w.heap.size w w' := by
  have HG := Lib.hid (good_any w lv l n hts hF)
  have HT : Hid (inV l 10 true n = (fitsB l n && holdsV l 10 true (n.toNat + 1) n)) := Lib.hid rfl
  obtain ⟨R, hR⟩ : ∃ R, inV l 10 true n = R := ⟨_, rfl⟩
  rw [hR] at HT ⊢
  clear hR
  have HFi := Lib.hid hF
  obtain ⟨av, cv, hlv⟩ := hF.still.nds.shape
  subst hlv
  clear hF
  go_enter Tryz.func8, Tryz.ntmps8
  go_wp2_with fail
  refine HG.out.mono ?_
  rintro e w1 ⟨rfl, hb⟩
  have HB := Lib.hid hb
  cases hfit : fitsB l n
  · have HR : Hid (R = false) := Lib.hid (by rw [HT.out, hfit]; rfl)
    obtain rfl := HR.out
    clear HT HG hb hfit HFi
    go_wp2_with fail
    go_ret
    exact ⟨rfl, HB.out⟩
  · obtain ⟨m, rfl, hm, hc⟩ := fits_in hfit
    have hD := (TreeD.tree_of hc).done
    have hF1 := HFi.out.below hb
    have HR : Hid (R = holdsV l 10 true (m + 1) (m : Int)) := Lib.hid (by rw [HT.out, hfit, Int.toNat_natCast]; rfl)
    have HS := Lib.hid (rholds_any l _ 10 true hF1.kids (kids_of hD) w1 hF1.still.nds m hm)
    obtain rfl := HR.out
    clear HT HG hb hfit HFi hF1 hD hc HR
    go_wp2_with fail
    refine HS.out.mono ?_
    rintro e w2 ⟨rfl, rfl⟩
    clear HS
    go_wp2_with fail
    go_ret
    exact ⟨rfl, HB.out⟩
set_option maxRecDepth 100000 in
set_option maxHeartbeats 4000000 in
theorem refBreaks_any (w : World) (lv : Value) (l : List Nd) (n : Int) (hts : ∀ n ∈ l, n.text.size ≤ 1000000) (hF : Fine w lv l) :
    Calls Tryz.prog 10 #[lv, .int .i64 n] w fun e w' => e = .returned (.bool (inV l 11 false n)) ∧ Below w.heap.size w w' := by
  have HG := Lib.hid (good_any w lv l n hts hF)
  have HT : Hid (inV l 11 false n = (fitsB l n && holdsV l 11 false (n.toNat + 1) n)) := Lib.hid rfl
  obtain ⟨R, hR⟩ : ∃ R, inV l 11 false n = R := ⟨_, rfl⟩
  rw [hR] at HT ⊢
  clear hR
  have HFi := Lib.hid hF
  obtain ⟨av, cv, hlv⟩ := hF.still.nds.shape
  subst hlv
  clear hF
  go_enter Tryz.func10, Tryz.ntmps10
  go_wp2_with fail
  refine HG.out.mono ?_
  rintro e w1 ⟨rfl, hb⟩
  have HB := Lib.hid hb
  cases hfit : fitsB l n
  · have HR : Hid (R = false) := Lib.hid (by rw [HT.out, hfit]; rfl)
    obtain rfl := HR.out
    clear HT HG hb hfit HFi
    go_wp2_with fail
    go_ret
    exact ⟨rfl, HB.out⟩
  · obtain ⟨m, rfl, hm, hc⟩ := fits_in hfit
    have hD := (TreeD.tree_of hc).done
    have hF1 := HFi.out.below hb
    have HR : Hid (R = holdsV l 11 false (m + 1) (m : Int)) := Lib.hid (by rw [HT.out, hfit, Int.toNat_natCast]; rfl)
    have HS := Lib.hid (rholds_any l _ 11 false hF1.kids (kids_of hD) w1 hF1.still.nds m hm)
    obtain rfl := HR.out
    clear HT HG hb hfit HFi hF1 hD hc HR
    go_wp2_with fail
    refine HS.out.mono ?_
    rintro e w2 ⟨rfl, rfl⟩
    clear HS
    go_wp2_with fail
    go_ret
    exact ⟨rfl, HB.out⟩
set_option maxRecDepth 100000 in
set_option maxHeartbeats 4000000 in
theorem refEnds_any (w : World) (lv : Value) (l : List Nd) (n : Int) (hts : ∀ n ∈ l, n.text.size ≤ 1000000) (hF : Fine w lv l) :
    Calls Tryz.prog 12 #[lv, .int .i64 n] w fun e w' => e = .returned (.bool (atEndV l n)) ∧ Below w.heap.size w w' := by
  have HG := Lib.hid (good_any w lv l n hts hF)
  have HT : Hid (atEndV l n = (fitsB l n && endsV l (n.toNat + 1) n)) := Lib.hid rfl
  obtain ⟨R, hR⟩ : ∃ R, atEndV l n = R := ⟨_, rfl⟩
  rw [hR] at HT ⊢
  clear hR
  have HFi := Lib.hid hF
  obtain ⟨av, cv, hlv⟩ := hF.still.nds.shape
  subst hlv
  clear hF
  go_enter Tryz.func12, Tryz.ntmps12
  go_wp2_with fail
  refine HG.out.mono ?_
  rintro e w1 ⟨rfl, hb⟩
  have HB := Lib.hid hb
  cases hfit : fitsB l n
  · have HR : Hid (R = false) := Lib.hid (by rw [HT.out, hfit]; rfl)
    obtain rfl := HR.out
    clear HT HG hb hfit HFi
    go_wp2_with fail
    go_ret
    exact ⟨rfl, HB.out⟩
  · obtain ⟨m, rfl, hm, hc⟩ := fits_in hfit
    have hD := (TreeD.tree_of hc).done
    have hF1 := HFi.out.below hb
    have HR : Hid (R = endsV l (m + 1) (m : Int)) := Lib.hid (by rw [HT.out, hfit, Int.toNat_natCast]; rfl)
    have HS := Lib.hid (rends_any l _ hF1.kids (kids_of hD) (three_of hD) m hm w1 hF1.still.nds)
    obtain rfl := HR.out
    clear HT HG hb hfit HFi hF1 hD hc HR
    go_wp2_with fail
    refine HS.out.mono ?_
    rintro e w2 ⟨rfl, hb2⟩
    have HE : Hid (Below w.heap.size w w2) := Lib.hid (HB.out.trans (hb2.mono HB.out.size))
    clear HS hb2
    go_wp2_with fail
    go_ret
    exact ⟨rfl, HE.out⟩
end ScD
end Go.Proofs.YtmdkocegnbcgmaaGreatDoor
