/- What else is asked of a node: the document's. -/
import Derived.Test.YtakdmlaecidjaaaGreatDoorTck13
import Derived.Test.YtakdmlaecidjaaaGreatDoorTck9
namespace Go.Proofs.YtakdmlaecidjaaaGreatDoor
open Go.RowKit ObjM
namespace TreeD

def rargsB (l : List Nd) (x : Nd) : Bool := if memB [READ, WRITE] x.text = true then decide (kindAt l (x.kids.getD 0 0) = 15) && digitB (ndAt l (x.kids.getD 0 0)).text else true
def rextraB (l : List Nd) (x : Nd) : Bool :=
  if x.kind = 3 then lastB l x.kids else if x.kind = 6 ∨ x.kind = 7 then baseB l (x.kids.getD 0 0)
  else if x.kind = 21 then rargsB l x else if x.kind = 32 then unlikeB id (textsOf l x.kids)
  else if x.kind = 1 then unlikeB (·.take 1) (textsOf l x.kids.dropLast) else true
set_option maxRecDepth 100000 in
set_option maxHeartbeats 8000000 in
theorem rroot_any (lv : Value) (l : List Nd) (n q : Nat) (w : World) (hl : NdsAt w lv l) (hD : Done l n) (hq : q < n) (hn : n ≤ l.length) :
    Calls Tryz.prog 44 #[lv, .int .i64 (q : Int)] w fun e w' => e = .returned (.int .i64 (rootV l q (q : Int))) ∧ w = w' := by
  obtain ⟨R, hR⟩ : ∃ R, rootV l q (q : Int) = R := ⟨_, rfl⟩
  rw [hR]
  have HD := Lib.hid hD
  have HL := Lib.hid hl
  obtain ⟨al, cl, rfl⟩ := hl.shape
  have HR0 := Lib.hid hR
  clear hR hD hl
  go_enter Tryz.func44, Tryz.ntmps44
  go_wp2
  go_loopw [1] (fun i wr => ∃ k f : Nat, i = .int .i64 (k : Int) ∧ k < n ∧ k ≤ f ∧ Hid (wr = w) ∧ Hid (rootV l f (k : Int) = R)) (fun i _ => (intOf i).toNat)
  case atStart => exact ⟨q, q, rfl, hq, by omega, Lib.hid rfl, HR0⟩
  case round =>
    obtain ⟨k, f, rfl, hk, hkf, HW, HR⟩ := hrel
    obtain rfl := HW.out
    clear HW HR0
    have hkl : k < l.length := by omega
    have hki : (k : Int) < (l.length : Int) := by omega
    have hk0 : (0 : Int) ≤ (k : Int) := by omega
    obtain ⟨b, o2, kv2, hb1, hb2, d0, d1, d2, d3, d4⟩ := HL.out.at k hkl
    have hg := HD.out k l[k] hk (List.getElem?_eq_getElem hkl)
    by_cases hkind : l[k].kind = 18 ∨ l[k].kind = 19 ∨ l[k].kind = 20
    · obtain ⟨y, r, hx⟩ := down_kid hg hkind
      have hy := hg.kids y (by rw [hx]; simp)
      obtain ⟨f2, rfl⟩ : ∃ f2, f = f2 + 1 := ⟨f - 1, by omega⟩
      have HR2 : Hid (rootV l f2 y = R) := Lib.hid (by rw [← HR.out, root_step hkl hkind hx])
      rw [hx] at d4
      obtain ⟨av, cap, rfl⟩ := d4.shape
      obtain ⟨g, o, rfl, hg2, z0⟩ := d4.at 0 (by simp)
      obtain ⟨p, rfl⟩ : ∃ p : Nat, y = (p : Int) := ⟨y.toNat, by omega⟩
      have hlen : (0 : Int) < ((((p : Int) :: r).length : Nat) : Int) := by simp only [List.length_cons]; omega
      subst hb1
      obtain ⟨kd, hkd⟩ : ∃ kd, l[k].kind = kd := ⟨_, rfl⟩
      rw [hkd] at d0 hkind
      simp only [List.getElem_cons_zero, Nat.add_zero] at z0
      have hpk : p < k := by omega
      obtain ⟨m, hm⟩ : ∃ m, ((p : Int) :: r).length = m := ⟨_, rfl⟩
      rw [hm] at d2 hlen
      clear hg hx hkd d1 d3 d4 HR hy
      rcases hkind with rfl | rfl | rfl
      all_goals
        go_wp2
        go_roundw
        case rel => exact ⟨p, f2, rfl, by omega, by omega, (by first | exact Lib.hid rfl | exact Lib.hid trivial), HR2⟩
        case measure => simp [intOf]; omega
    · have hRe : R = l[k].kind := by rw [← HR.out, root_end hkl hkind]
      subst hb1
      obtain ⟨kd, hkd⟩ : ∃ kd, l[k].kind = kd := ⟨_, rfl⟩
      rw [hkd] at d0 hkind hRe
      subst hRe
      clear hg hkd d1 d2 d3 d4 HR
      have g1 : (R == 18) = false := by simp only [beq_eq_false_iff_ne, ne_eq]; exact fun e => hkind (.inl e)
      have g2 : (R == 19) = false := by simp only [beq_eq_false_iff_ne, ne_eq]; exact fun e => hkind (.inr (.inl e))
      have g3 : (R == 20) = false := by simp only [beq_eq_false_iff_ne, ne_eq]; exact fun e => hkind (.inr (.inr e))
      clear hkind
      go_wp2
      go_ret
      exact ⟨rfl, rfl⟩
theorem memRW (t : ByteArray) : memB [READ, WRITE] t = ((t.toList == [114, 101, 97, 100]) || (t.toList == [119, 114, 105, 116, 101])) := by
  unfold memB READ WRITE
  rw [ByteArray.toList_eq]
  simp only [List.any_cons, List.any_nil, Bool.or_false]
  rw [Bool.beq_comm (a := t.data.toList), Bool.beq_comm (a := t.data.toList)]
/-- What is known of a node whose kids and text are as they should be. -/
structure Xh (w : World) (lv : Value) (l : List Nd) (n : Nat) (x : Nd) : Prop where
  st : Still w lv l
  dn : Done l n
  lt : n < l.length
  is : l[n]? = some x
  kids : ∀ k ∈ x.kids, 0 ≤ k ∧ k < (n : Int)
  kl : x.kids.length < 1000000
  ll : l.length ≤ 100000
  okl : ∀ n ∈ l, NdOk n
  fit : fitB (WANT.getD x.kind.toNat []) (kindsOf l x.kids) = true
  txt : rtextB x = true
def ExtraIs (l : List Nd) (x : Nd) (w : World) (e : Ending) (w' : World) : Prop := e = .returned (.bool (rextraB l x)) ∧ Below w.heap.size w w'
set_option maxRecDepth 100000 in
set_option maxHeartbeats 16000000 in
theorem extra67 (l : List Nd) (n : Nat) (x : Nd) (lv : Value) (w : World) (h : Xh w lv l n x) (hkind : x.kind = 6 ∨ x.kind = 7) :
    Calls Tryz.prog 30 #[lv, .int .i64 (n : Int)] w (ExtraIs l x w) := by
  have hnd := h.st.nds
  have hlt := h.lt
  have hokx := h.okl x (List.mem_of_getElem? h.is)
  have hxe : l[n] = x := (List.getElem?_eq_some_iff.1 h.is).2
  obtain ⟨al, cl, rfl⟩ := hnd.shape
  obtain ⟨b, o, kv, rfl, hb2, d0, d1, d2, d3, d4⟩ := hnd.at n h.lt
  obtain ⟨av, cv, rfl⟩ := d4.shape
  have hcp := h.st.cap b o _ cl rfl n h.lt _ _ _ d2
  rw [hxe] at d0 d1 d2 d3 d4 hcp
  have HX := Lib.hid h
  obtain ⟨x0, x1, ks, x3⟩ := x
  simp only at d0 d1 d2 d3 d4 hcp hkind
  have hni : (n : Int) < (l.length : Int) := by omega
  have hn0 : (0 : Int) ≤ (n : Int) := by omega
  have HKd := Lib.hid (fun (W : World) (h : Below w.heap.size w W) => d4.below (Nat.le_refl _) h)
  have HNd := Lib.hid (fun (W : World) (h : Below w.heap.size w W) => hnd.below (Nat.le_refl _) h)
  have hp : 0 < ks.length := by
    have hf := h.fit
    have hkn : (kindsOf l ks).length = ks.length := by simp [kindsOf]
    rw [← hkn]
    rcases hkind with rfl | rfl
    · exact fit_first hf rfl (show (0 : Nat) < 2 by decide)
    · exact fit_first hf rfl (show (0 : Nat) < 1 by decide)
  have hA0 : Below w.heap.size w (w.alloc (.cells #[.int .i64 x0, .string x1, .slice av ks.length cv, .int .i64 x3] 35)) := (Below.refl _ w).alloc (Nat.le_refl _) _
  obtain ⟨g, o2, rfl, hg2, z0⟩ := (HKd.out _ hA0).at 0 hp
  have hy := h.kids ks[0] (List.getElem_mem hp)
  have hgd : ks.getD 0 0 = ks[0] := by simp [List.getD, hp]
  have he : rextraB l ⟨x0, x1, ks, x3⟩ = baseB l ks[0] := by
    rw [← hgd]
    unfold rextraB
    simp only
    rw [if_neg (by omega), if_pos hkind]
  generalize ks[0] = y at z0 hy he
  obtain ⟨q, rfl⟩ : ∃ q : Nat, y = (q : Int) := ⟨y.toNat, by omega⟩
  have HRt := Lib.hid (rroot_any _ l n q _ (HNd.out _ hA0) h.dn (by omega) (Nat.le_of_lt h.lt))
  have hbb : baseB l (q : Int) = (decide (rootV l q (q : Int) = 17) || decide (rootV l q (q : Int) = 21)) := by
    unfold baseB
    simp only [Int.toNat_natCast]
  generalize rootV l q (q : Int) = rv at HRt hbb
  rw [hbb] at he
  have HE : Hid (∀ w', Below w.heap.size w w' → ExtraIs l ⟨x0, x1, ks, x3⟩ w (.returned (.bool (decide (rv = 17) || decide (rv = 21)))) w') := Lib.hid fun w' hb => ⟨by rw [he], hb⟩
  have hp1 : (0 : Int) < (ks.length : Int) := by omega
  simp only [Nat.add_zero] at z0
  obtain ⟨m, hm⟩ : ∃ m, ks.length = m := ⟨_, rfl⟩
  rw [hm] at HRt hp1 z0 d2 hcp
  clear hA0 hbb he hy hgd hp HX HKd HNd
  have hm2 := hm
  have HA : Hid (Below w.heap.size w (w.alloc (.cells #[.int .i64 x0, .string x1, .slice (some ⟨g, o2, none⟩) m cv, .int .i64 x3] 35))) := Lib.hid ((Below.refl _ w).alloc (Nat.le_refl _) _)
  clear d4 hnd h hxe hlt hokx hm hm2
  have hrv : (rv = 17 ∨ (¬ rv = 17 ∧ rv = 21)) ∨ (¬ rv = 17 ∧ ¬ rv = 21) := by omega
  rcases hkind with rfl | rfl
  all_goals
    go_enter Tryz.func30, Tryz.ntmps30
    go_wp2_with fail
    refine (HRt.out).mono ?_
    rintro e w2 ⟨rfl, rfl⟩
    rcases hrv with (rfl | ⟨hr1, rfl⟩) | ⟨hr1, hr2⟩
    · go_wp2
      go_ret
      exact HE.out _ HA.out
    · go_wp2
      go_ret
      exact HE.out _ HA.out
    · have g1 : (rv == 17) = false := by simp [hr1]
      have g2 : (rv == 21) = false := by simp [hr2]
      rw [decide_eq_false hr1, decide_eq_false hr2] at HE
      go_wp2
      go_ret
      exact HE.out _ HA.out
set_option maxRecDepth 100000 in
set_option maxHeartbeats 16000000 in
theorem extraElse (l : List Nd) (n : Nat) (x : Nd) (lv : Value) (w : World) (h : Xh w lv l n x) (hkind : ¬ x.kind = 1 ∧ ¬ x.kind = 3 ∧ ¬ x.kind = 6 ∧ ¬ x.kind = 7 ∧ ¬ x.kind = 21 ∧ ¬ x.kind = 32) :
    Calls Tryz.prog 30 #[lv, .int .i64 (n : Int)] w (ExtraIs l x w) := by
  have hnd := h.st.nds
  have hlt := h.lt
  have hokx := h.okl x (List.mem_of_getElem? h.is)
  have hxe : l[n] = x := (List.getElem?_eq_some_iff.1 h.is).2
  obtain ⟨al, cl, rfl⟩ := hnd.shape
  obtain ⟨b, o, kv, rfl, hb2, d0, d1, d2, d3, d4⟩ := hnd.at n h.lt
  obtain ⟨av, cv, rfl⟩ := d4.shape
  have hcp := h.st.cap b o _ cl rfl n h.lt _ _ _ d2
  rw [hxe] at d0 d1 d2 d3 d4 hcp
  have HX := Lib.hid h
  obtain ⟨x0, x1, ks, x3⟩ := x
  simp only at d0 d1 d2 d3 d4 hcp hkind
  have hni : (n : Int) < (l.length : Int) := by omega
  have hn0 : (0 : Int) ≤ (n : Int) := by omega
  have HKd := Lib.hid (fun (W : World) (h : Below w.heap.size w W) => d4.below (Nat.le_refl _) h)
  have HNd := Lib.hid (fun (W : World) (h : Below w.heap.size w W) => hnd.below (Nat.le_refl _) h)
  obtain ⟨k1, k3, k6, k7, k21, k32⟩ := hkind
  have he : rextraB l ⟨x0, x1, ks, x3⟩ = true := by simp [rextraB, k1, k3, k6, k7, k21, k32]
  have HE : Hid (∀ w', Below w.heap.size w w' → ExtraIs l ⟨x0, x1, ks, x3⟩ w (.returned (.bool true)) w') := Lib.hid fun w' hb => ⟨by rw [he], hb⟩
  clear he HX HKd HNd
  have HA : Hid (Below w.heap.size w (w.alloc (.cells #[.int .i64 x0, .string x1, .slice av ks.length cv, .int .i64 x3] 35))) := Lib.hid ((Below.refl _ w).alloc (Nat.le_refl _) _)
  clear d4 hnd h hxe hlt hokx
  go_enter Tryz.func30, Tryz.ntmps30
  go_wp2
  go_ret
  exact HE.out _ HA.out
set_option maxRecDepth 100000 in
set_option maxHeartbeats 16000000 in
theorem extra3 (l : List Nd) (n : Nat) (x : Nd) (lv : Value) (w : World) (h : Xh w lv l n x) (hkind : x.kind = 3) :
    Calls Tryz.prog 30 #[lv, .int .i64 (n : Int)] w (ExtraIs l x w) := by
  have hnd := h.st.nds
  have hlt := h.lt
  have hokx := h.okl x (List.mem_of_getElem? h.is)
  have hxe : l[n] = x := (List.getElem?_eq_some_iff.1 h.is).2
  obtain ⟨al, cl, rfl⟩ := hnd.shape
  obtain ⟨b, o, kv, rfl, hb2, d0, d1, d2, d3, d4⟩ := hnd.at n h.lt
  obtain ⟨av, cv, rfl⟩ := d4.shape
  have hcp := h.st.cap b o _ cl rfl n h.lt _ _ _ d2
  rw [hxe] at d0 d1 d2 d3 d4 hcp
  have HX := Lib.hid h
  obtain ⟨x0, x1, ks, x3⟩ := x
  simp only at d0 d1 d2 d3 d4 hcp hkind
  have hni : (n : Int) < (l.length : Int) := by omega
  have hn0 : (0 : Int) ≤ (n : Int) := by omega
  have HKd := Lib.hid (fun (W : World) (h : Below w.heap.size w W) => d4.below (Nat.le_refl _) h)
  have HNd := Lib.hid (fun (W : World) (h : Below w.heap.size w W) => hnd.below (Nat.le_refl _) h)
  subst hkind
  have he : rextraB l ⟨3, x1, ks, x3⟩ = lastB l ks := by simp [rextraB]
  have HE : Hid (∀ w', Below w.heap.size w w' → ExtraIs l ⟨3, x1, ks, x3⟩ w (.returned (.bool (lastB l ks))) w') := Lib.hid fun w' hb => ⟨by rw [he], hb⟩
  obtain ⟨R, hR⟩ : ∃ R, lastB l ks = R := ⟨_, rfl⟩
  have HR0 : Hid (lastB l (ks.drop 0) = R) := Lib.hid hR
  rw [hR] at HE
  have HO : Hid (∀ k ∈ ks, 0 ≤ k ∧ k < (l.length : Int)) := Lib.hid fun k hk => by have := h.kids k hk; have := h.lt; omega
  have hkl : ks.length < 1000000 := h.kl
  clear he hR
  have HA : Hid (Below w.heap.size w (w.alloc (.cells #[.int .i64 3, .string x1, .slice av ks.length cv, .int .i64 x3] 35))) := Lib.hid ((Below.refl _ w).alloc (Nat.le_refl _) _)
  have hN := Has.new w 35 [.int .i64 3, .string x1, .slice av ks.length cv, .int .i64 x3]
  have HH : Hid (w.heap.size ≤ w.heap.size) := Lib.hid (Nat.le_refl _)
  clear d4 hnd h hxe hlt hokx
  go_enter Tryz.func30, Tryz.ntmps30
  go_wp2
  generalize hW : World.alloc w (.cells #[.int .i64 3, .string x1, .slice av ks.length cv, .int .i64 x3] 35) = w1 at HA hN ⊢
  generalize hNe : w.heap.size = N at hN ⊢
  have n0 := hN.cell 0
  have n1 := hN.cell 1
  have n2 := hN.cell 2
  have n3 := hN.cell 3
  have nl := hN.lt
  simp only [List.getElem?_cons_succ, List.getElem?_cons_zero] at n0 n1 n2 n3
  have HNh := Lib.hid hN
  clear hN hW d0 d1 d2 d3 HH
  go_loopw [29] (fun i wr => ∃ k : Nat, i = .int .i64 (k : Int) ∧ k ≤ ks.length ∧ Hid (wr = w1) ∧ Hid (lastB l (ks.drop k) = R)) (fun i _ => ks.length - (intOf i).toNat)
  case atStart => exact ⟨0, rfl, by omega, Lib.hid rfl, HR0⟩
  case round =>
    obtain ⟨k, rfl, hkk, HW, HR⟩ := hrel
    obtain rfl := HW.out
    clear HW
    by_cases hlt : k < ks.length
    · have hk1 : (k : Int) < (ks.length : Int) := by omega
      obtain ⟨g, o2, hg1, hg2, z0⟩ := (HKd.out _ HA.out).at k hlt
      have hy := HO.out _ (List.getElem_mem hlt)
      have HS : Hid (k + 1 < ks.length → lastB l (ks.drop k) = (!(decide (kindAt l ks[k] = 10) || decide (kindAt l ks[k] = 11)) && lastB l (ks.drop (k + 1)))) := Lib.hid fun h => last_take h
      generalize ks[k] = y at z0 hy HS
      obtain ⟨q, rfl⟩ : ∃ q : Nat, y = (q : Int) := ⟨y.toNat, by omega⟩
      have hql : q < l.length := by omega
      have hqi : (q : Int) < (l.length : Int) := by omega
      have hq0 : (0 : Int) ≤ (q : Int) := by omega
      obtain ⟨b2, o3, kv2, hb1, hb3, d0, -⟩ := (HNd.out _ HA.out).at q hql
      injection hb1 with hb1
      injection hb1 with hb4 hb5
      subst hb4 hb5
      rw [kindAt_q hql] at HS
      generalize l[q].kind = kd at d0 HS
      subst hg1
      by_cases hend : k + 1 < ks.length
      · have HS2 := Lib.hid (HS.out hend)
        have hend1 : (k : Int) < (ks.length : Int) - 1 := by omega
        by_cases h10 : kd = 10
        · subst h10
          have hRf : R = false := by rw [← HR.out, HS2.out]; rfl
          subst hRf
          clear HS HS2
          go_wp2
          go_ret
          exact HE.out _ HA.out
        · by_cases h11 : kd = 11
          · subst h11
            have hRf : R = false := by rw [← HR.out, HS2.out]; rfl
            subst hRf
            clear HS HS2
            go_wp2
            go_ret
            exact HE.out _ HA.out
          · have HR2 : Hid (lastB l (ks.drop (k + 1)) = R) := Lib.hid (by rw [← HR.out, HS2.out]; simp [h10, h11])
            have b10 : (kd == 10) = false := by simp [h10]
            have b11 : (kd == 11) = false := by simp [h11]
            clear HS HS2 HR
            go_wp2
            go_roundw
            case rel => exact ⟨k + 1, by go_num, by omega, (by first | exact Lib.hid rfl | exact Lib.hid trivial), HR2⟩
            case measure => simp [intOf]; omega
      · have hend1 : ¬ (k : Int) < (ks.length : Int) - 1 := by omega
        have HR2 : Hid (lastB l (ks.drop (k + 1)) = R) := Lib.hid (by rw [← HR.out, last_end (by omega), last_end (by omega)])
        clear HS HR
        go_wp2
        go_roundw
        case rel => exact ⟨k + 1, by go_num, by omega, (by first | exact Lib.hid rfl | exact Lib.hid trivial), HR2⟩
        case measure => simp [intOf]; omega
    · have hRt : R = true := by rw [← HR.out, last_end (by omega)]
      have hkm : k = ks.length := by omega
      subst hRt hkm
      go_wp2
      go_ret
      exact HE.out _ HA.out
set_option maxRecDepth 100000 in
set_option maxHeartbeats 16000000 in
theorem extra21 (l : List Nd) (n : Nat) (x : Nd) (lv : Value) (w : World) (h : Xh w lv l n x) (hkind : x.kind = 21) :
    Calls Tryz.prog 30 #[lv, .int .i64 (n : Int)] w (ExtraIs l x w) := by
  have hnd := h.st.nds
  have hlt := h.lt
  have hokx := h.okl x (List.mem_of_getElem? h.is)
  have hxe : l[n] = x := (List.getElem?_eq_some_iff.1 h.is).2
  obtain ⟨al, cl, rfl⟩ := hnd.shape
  obtain ⟨b, o, kv, rfl, hb2, d0, d1, d2, d3, d4⟩ := hnd.at n h.lt
  obtain ⟨av, cv, rfl⟩ := d4.shape
  have hcp := h.st.cap b o _ cl rfl n h.lt _ _ _ d2
  rw [hxe] at d0 d1 d2 d3 d4 hcp
  have HX := Lib.hid h
  obtain ⟨x0, x1, ks, x3⟩ := x
  simp only at d0 d1 d2 d3 d4 hcp hkind
  have hni : (n : Int) < (l.length : Int) := by omega
  have hn0 : (0 : Int) ≤ (n : Int) := by omega
  have HKd := Lib.hid (fun (W : World) (h : Below w.heap.size w W) => d4.below (Nat.le_refl _) h)
  have HNd := Lib.hid (fun (W : World) (h : Below w.heap.size w W) => hnd.below (Nat.le_refl _) h)
  subst hkind
  have he : rextraB l ⟨21, x1, ks, x3⟩ = rargsB l ⟨21, x1, ks, x3⟩ := by simp [rextraB]
  have HE : Hid (∀ w', Below w.heap.size w w' → ExtraIs l ⟨21, x1, ks, x3⟩ w (.returned (.bool (rargsB l ⟨21, x1, ks, x3⟩))) w') := Lib.hid fun w' hb => ⟨by rw [he], hb⟩
  have hkl : ks.length < 1000000 := h.kl
  unfold rargsB at HE
  simp only at HE
  rw [memRW] at HE
  by_cases hrw : x1 = READ ∨ x1 = WRITE
  · have htx := h.txt
    unfold rtextB at htx
    simp only [if_true] at htx
    have hbv : builtinV x1 = (ks.length : Int) := of_decide_eq_true htx
    have hpos : 0 < ks.length := by
      have : builtinV x1 = 1 ∨ builtinV x1 = 2 := by
        rcases hrw with rfl | rfl
        · exact .inl (by decide)
        · exact .inr (by decide)
      omega
    have hmt : ((x1.toList == [114, 101, 97, 100]) || (x1.toList == [119, 114, 105, 116, 101])) = true := by
      rw [← memRW]
      rcases hrw with rfl | rfl <;> decide
    rw [hmt] at HE
    simp only [if_true] at HE
    have hA0 : Below w.heap.size w (w.alloc (.cells #[.int .i64 21, .string x1, .slice av ks.length cv, .int .i64 x3] 35)) := (Below.refl _ w).alloc (Nat.le_refl _) _
    obtain ⟨g, o2, rfl, hg2, z0⟩ := (HKd.out _ hA0).at 0 hpos
    have hy := h.kids ks[0] (List.getElem_mem hpos)
    have hgd : ks.getD 0 0 = ks[0] := by simp [List.getD, hpos]
    rw [hgd] at HE
    generalize ks[0] = y at z0 hy HE
    obtain ⟨q, rfl⟩ : ∃ q : Nat, y = (q : Int) := ⟨y.toNat, by omega⟩
    have hql : q < l.length := by omega
    have hqi : (q : Int) < (l.length : Int) := by omega
    have hq0 : (0 : Int) ≤ (q : Int) := by omega
    obtain ⟨b2, o3, kv2, hb1, hb3, e0, e1, e2, e3, e4⟩ := (HNd.out _ hA0).at q hql
    injection hb1 with hb1
    injection hb1 with hb4 hb5
    subst hb4 hb5
    obtain ⟨av2, cap2, rfl⟩ := e4.shape
    rw [kindAt_q hql, ndAt_q hql] at HE
    have hok2 := (h.okl _ (List.getElem_mem hql)).1
    generalize hnk2 : l[q].kids.length = nk2 at e2
    clear e4 hnk2
    generalize l[q] = z at e0 e1 e3 HE hok2
    obtain ⟨y0, y1, y2, y3⟩ := z
    simp only at e0 e1 e3 HE hok2
    have HDg := fun W => Lib.hid (rDigit_any y1 hok2 W)
    generalize digitB y1 = dg at HDg HE
    simp only [Nat.add_zero] at z0
    have hp1 : (0 : Int) < (ks.length : Int) := by omega
    have hbl : b < w.heap.size := hb2
    obtain ⟨m, hm⟩ : ∃ m, ks.length = m := ⟨_, rfl⟩
    rw [hm] at hA0 hp1 z0 d2 hcp e0 e1 e2 e3 hg2 hb3
    have HA : Hid (Below w.heap.size w (w.alloc (.cells #[.int .i64 21, .string x1, .slice (some ⟨g, o2, none⟩) m cv, .int .i64 x3] 35))) := Lib.hid hA0
    have hN := Has.new w 35 [.int .i64 21, .string x1, .slice (some ⟨g, o2, none⟩) m cv, .int .i64 x3]
    have n1 := hN.cell 1
    have n2 := hN.cell 2
    have nl := hN.lt
    simp only [List.getElem?_cons_succ, List.getElem?_cons_zero] at n1 n2
    have HA2 : Hid (Below w.heap.size w ((w.alloc (.cells #[.int .i64 21, .string x1, .slice (some ⟨g, o2, none⟩) m cv, .int .i64 x3] 35)).alloc (.cells #[.int .i64 y0, .string y1, .slice av2 nk2 cap2, .int .i64 y3] 35))) := Lib.hid (hA0.alloc hA0.size _)
    clear hnd h hxe hlt hokx hy hgd hm hpos hA0 hN hok2 he htx hbv hmt HX HKd HNd d4
    rcases hrw with rfl | rfl
    all_goals
      simp only [READ, WRITE] at n1 n2 nl z0 e0 e1 e2 e3 d1 HA HA2 HE ⊢
      by_cases h15 : y0 = 15
      · subst h15
        simp only [decide_true, Bool.true_and] at HE
        go_enter Tryz.func30, Tryz.ntmps30
        go_wp2_with fail
        refine ((HDg _).out).mono ?_
        rintro e w2 ⟨rfl, hw⟩
        subst hw
        go_wp2
        go_ret
        exact HE.out _ HA2.out
      · rw [decide_eq_false h15] at HE
        have b15 : (y0 == 15) = false := by simp [h15]
        simp only [Bool.false_and] at HE
        go_enter Tryz.func30, Tryz.ntmps30
        go_wp2
        go_ret
        exact HE.out _ HA2.out
  · have g1 := ne_list (l := [114, 101, 97, 100]) (s := x1) (fun e => hrw (.inl e))
    have g2 := ne_list (l := [119, 114, 105, 116, 101]) (s := x1) (fun e => hrw (.inr e))
    rw [g1, g2] at HE
    simp only [Bool.or_false, Bool.false_eq_true, if_false] at HE
    clear he HX HKd HNd hrw
    have HA : Hid (Below w.heap.size w (w.alloc (.cells #[.int .i64 21, .string x1, .slice av ks.length cv, .int .i64 x3] 35))) := Lib.hid ((Below.refl _ w).alloc (Nat.le_refl _) _)
    clear d4 hnd h hxe hlt hokx
    go_enter Tryz.func30, Tryz.ntmps30
    go_wp2
    go_ret
    exact HE.out _ HA.out
end TreeD
end Go.Proofs.YtakdmlaecidjaaaGreatDoor

namespace Go.Proofs.YtakdmlaecidjaaaGreatDoor
open Go.RowKit ObjM
namespace TreeD

def sk (g : List UInt8 → List UInt8) (l : List Nd) (cs : List Int) (k : Nat) : List (List UInt8) := (textsOf l (cs.take k)).map g
theorem sk_zero (g : List UInt8 → List UInt8) (l : List Nd) (cs : List Int) : sk g l cs 0 = [] := rfl
theorem sk_next {g : List UInt8 → List UInt8} {l : List Nd} {cs : List Int} {k : Nat} (hk : k < cs.length) : sk g l cs (k + 1) = sk g l cs k ++ [g (txt l cs[k])] := by
  unfold sk textsOf
  rw [List.take_succ_eq_append_getElem hk, List.map_append, List.map_append]
  rfl
theorem cell_heap {w w' : World} (h : w'.heap = w.heap) {a : Addr} {v : Value} (hc : w.cell? a = some v) : w'.cell? a = some v := by
  rw [← hc]
  simp only [World.cell?, h]
theorem sk_no {g : List UInt8 → List UInt8} {l : List Nd} {cs : List Int} {k : Nat} (hk : k ≤ cs.length) {t : List UInt8} (h : ∀ (j : Nat) (hj : j < cs.length), j < k → (g (txt l cs[j]) == t) = false) : (sk g l cs k).any (fun s => s == t) = false := by
  rw [List.any_eq_false]
  intro s hs
  unfold sk textsOf at hs
  rw [List.map_map, List.mem_map] at hs
  obtain ⟨c, hc, rfl⟩ := hs
  obtain ⟨j, hj, rfl⟩ := List.mem_iff_getElem.1 hc
  rw [List.length_take] at hj
  rw [List.getElem_take]
  have := h j (by omega) (by omega)
  simpa [txt] using this
theorem sk_yes {g : List UInt8 → List UInt8} {l : List Nd} {cs : List Int} {k j : Nat} (hj : j < cs.length) (hjk : j < k) {t : List UInt8} (h : (g (txt l cs[j]) == t) = true) : (sk g l cs k).any (fun s => s == t) = true := by
  rw [List.any_eq_true]
  refine ⟨g (txt l cs[j]), ?_, h⟩
  unfold sk textsOf
  rw [List.map_map, List.mem_map]
  refine ⟨cs[j], ?_, by simp [txt]⟩
  rw [List.mem_iff_getElem]
  exact ⟨j, by rw [List.length_take]; omega, by rw [List.getElem_take]⟩
set_option maxRecDepth 100000 in
set_option maxHeartbeats 16000000 in
theorem extra32 (l : List Nd) (n : Nat) (x : Nd) (lv : Value) (w : World) (h : Xh w lv l n x) (hkind : x.kind = 32) :
    Calls Tryz.prog 30 #[lv, .int .i64 (n : Int)] w (ExtraIs l x w) := by
  have hnd := h.st.nds
  have hlt := h.lt
  have hokx := h.okl x (List.mem_of_getElem? h.is)
  have hxe : l[n] = x := (List.getElem?_eq_some_iff.1 h.is).2
  obtain ⟨al, cl, rfl⟩ := hnd.shape
  obtain ⟨b, o, kv, rfl, hb2, d0, d1, d2, d3, d4⟩ := hnd.at n h.lt
  obtain ⟨av, cv, rfl⟩ := d4.shape
  have hcp := h.st.cap b o _ cl rfl n h.lt _ _ _ d2
  rw [hxe] at d0 d1 d2 d3 d4 hcp
  have HX := Lib.hid h
  obtain ⟨x0, x1, ks, x3⟩ := x
  simp only at d0 d1 d2 d3 d4 hcp hkind
  have hni : (n : Int) < (l.length : Int) := by omega
  have hn0 : (0 : Int) ≤ (n : Int) := by omega
  have HKd := Lib.hid (fun (W : World) (h : Below w.heap.size w W) => d4.below (Nat.le_refl _) h)
  have HNd := Lib.hid (fun (W : World) (h : Below w.heap.size w W) => hnd.below (Nat.le_refl _) h)
  subst hkind
  have he : rextraB l ⟨32, x1, ks, x3⟩ = unlikeB id (textsOf l ks) := by simp [rextraB]
  have HE : Hid (∀ w', Below w.heap.size w w' → ExtraIs l ⟨32, x1, ks, x3⟩ w (.returned (.bool (unlikeB id (textsOf l ks)))) w') := Lib.hid fun w' hb => ⟨by rw [he], hb⟩
  obtain ⟨R, hR⟩ : ∃ R, unlikeB id (textsOf l ks) = R := ⟨_, rfl⟩
  have HO : Hid (∀ k ∈ ks, 0 ≤ k ∧ k < (l.length : Int)) := Lib.hid fun k hk => by have := h.kids k hk; have := h.lt; omega
  have HOl := Lib.hid h.okl
  have hkl : ks.length < 1000000 := h.kl
  obtain ⟨cs, hcs⟩ : ∃ cs, ks = cs := ⟨_, rfl⟩
  rw [hR] at HE
  rw [hcs] at hR
  have HR0 : Hid (freshB id (sk id l cs 0) (textsOf l (cs.drop 0)) = R) := Lib.hid hR
  obtain ⟨m, hm⟩ : ∃ m, ks.length = m := ⟨_, rfl⟩
  have HCn : Hid (cs.length = m) := Lib.hid (by rw [← hcs]; exact hm)
  have HCk : Hid (∀ (j : Nat) (hj : j < cs.length) (hj2 : j < ks.length), cs[j] = ks[j]) := Lib.hid fun j hj hj2 => by simp only [← hcs]
  have HKd2 : Hid (∀ W, Below w.heap.size w W → KidsAt W (.slice av m cv) ks) := Lib.hid fun W hb => by rw [← hm]; exact HKd.out W hb
  have HKl : Hid (ks.length = m) := Lib.hid hm
  have hmc : (m : Int) ≤ (cv : Int) := by omega
  rw [hm] at hcp hkl d2
  have HA : Hid (Below w.heap.size w (w.alloc (.cells #[.int .i64 32, .string x1, .slice av m cv, .int .i64 x3] 35))) := Lib.hid ((Below.refl _ w).alloc (Nat.le_refl _) _)
  have hN := Has.new w 35 [.int .i64 32, .string x1, .slice av m cv, .int .i64 x3]
  clear he hR hcs HX HKd d4 hnd h hxe hlt hokx hm
  go_enter Tryz.func30, Tryz.ntmps30
  go_wp2
  generalize hW : World.alloc w (.cells #[.int .i64 32, .string x1, .slice av m cv, .int .i64 x3] 35) = w1 at HA hN ⊢
  generalize hNe : w.heap.size = N at hN ⊢
  have n2 := hN.cell 2
  have nl := hN.lt
  simp only [List.getElem?_cons_succ, List.getElem?_cons_zero] at n2
  clear hN hW d0 d1 d2 d3 
  go_loopw [102] (fun i wr => ∃ k : Nat, i = .int .i64 (k : Int) ∧ k ≤ m ∧ Hid (wr.heap = w1.heap) ∧ Hid (Below w.heap.size w wr) ∧ Hid (freshB id (sk id l cs k) (textsOf l (cs.drop k)) = R)) (fun i _ => m - (intOf i).toNat)
  case atStart => exact ⟨0, rfl, by omega, Lib.hid rfl, HA, HR0⟩
  case round =>
    obtain ⟨k, rfl, hkk, HW, HAw, HR⟩ := hrel
    replace n2 := cell_heap HW.out n2
    replace nl : N < wr.heap.size := by rw [HW.out]; exact nl
    clear HA
    have HA := HAw
    clear HAw
    by_cases hlt : k < m
    · have hk1 : (k : Int) < (m : Int) := by omega
      have hk0 : (0 : Int) ≤ (k : Int) := by omega
      have hkc : (k : Int) ≤ (cv : Int) := by omega
      have hkl2 : k < ks.length := by have := HKl.out; omega
      have hkcs : k < cs.length := by have := HCn.out; omega
      obtain ⟨g2, o2, hg1, hg2, z0⟩ := (HKd2.out _ HA.out).at k hkl2
      have hy := HO.out _ (List.getElem_mem hkl2)
      have HD := Lib.hid (fresh_drop (g := id) (l := l) (S := sk id l cs k) hkcs)
      have HSn := Lib.hid (sk_next (g := id) (l := l) hkcs)
      have hck := HCk.out k hkcs hkl2
      rw [hck] at HD HSn
      generalize ks[k] = y at z0 hy HD HSn 
      obtain ⟨q, rfl⟩ : ∃ q : Nat, y = (q : Int) := ⟨y.toNat, by omega⟩
      have hql : q < l.length := by omega
      have hqi : (q : Int) < (l.length : Int) := by omega
      have hq0 : (0 : Int) ≤ (q : Int) := by omega
      obtain ⟨b2, o3, kv2, hb1, hb3, e0, e1, -⟩ := (HNd.out _ HA.out).at q hql
      injection hb1 with hb1
      injection hb1 with hb4 hb5
      subst hb4 hb5
      have htx : txt l (q : Int) = l[q].text.data.toList := by simp [txt, ndAt, List.getD, hql]
      rw [htx] at HD HSn
      generalize l[q].text = tk at e1 HD HSn 
      simp only [id] at HD HSn
      subst hg1
      clear htx e0 hck 
      go_wp2
      go_loopw [112] (fun i wr2 => ∃ j : Nat, i = .int .i64 (j : Int) ∧ j ≤ k ∧ Hid (wr2.heap = w1.heap) ∧ Hid (Below w.heap.size w wr2) ∧ Hid (∀ (j2 : Nat) (hj : j2 < cs.length), j2 < j → (id (txt l cs[j2]) == tk.data.toList) = false)) (fun i _ => k - (intOf i).toNat)
      case atStart => exact ⟨0, rfl, by omega, HW, HA, Lib.hid (fun j2 hj h => by omega)⟩
      case round =>
        obtain ⟨j, rfl, hjk, HW2, HAw2, HNo⟩ := hrel
        replace e1 := cell_heap (HW2.out.trans HW.out.symm) e1
        clear HA n2 nl z0
        have HA := HAw2
        clear HAw2
        by_cases hjlt : j < k
        · have hj1 : (j : Int) < (k : Int) := by omega
          have hjl2 : j < ks.length := by omega
          have hjcs : j < cs.length := by omega
          obtain ⟨g3, o4, hg3, hg4, z1⟩ := (HKd2.out _ HA.out).at j hjl2
          injection hg3 with hg3
          injection hg3 with hg5 hg6
          subst hg5 hg6
          have hy2 := HO.out _ (List.getElem_mem hjl2)
          have hcj := HCk.out j hjcs hjl2
          have HTj : Hid (txt l cs[j] = txt l ks[j]) := Lib.hid (by rw [hcj])
          generalize ks[j] = y2 at z1 hy2 HTj 
          obtain ⟨q2, rfl⟩ : ∃ q2 : Nat, y2 = (q2 : Int) := ⟨y2.toNat, by omega⟩
          have hql2 : q2 < l.length := by omega
          have hqi2 : (q2 : Int) < (l.length : Int) := by omega
          have hq02 : (0 : Int) ≤ (q2 : Int) := by omega
          obtain ⟨b3, o5, kv3, hb6, hb7, f0, f1, -⟩ := (HNd.out _ HA.out).at q2 hql2
          injection hb6 with hb6
          injection hb6 with hb8 hb9
          subst hb8 hb9
          have htx2 : txt l (q2 : Int) = l[q2].text.data.toList := by simp [txt, ndAt, List.getD, hql2]
          rw [htx2] at HTj
          generalize l[q2].text = tm at f1 HTj 
          obtain ⟨bb, hbb⟩ : ∃ bb, (tk.toList == tm.toList) = bb := ⟨_, rfl⟩
          have HCmp : Hid ((id (txt l cs[j]) == tk.data.toList) = bb) := Lib.hid (by
            rw [HTj.out, ← hbb, same_text]
            exact Bool.beq_comm)
          clear htx2 f0 hcj
          cases bb
          · have HNo2 : Hid (∀ (j2 : Nat) (hj : j2 < cs.length), j2 < j + 1 → (id (txt l cs[j2]) == tk.data.toList) = false) := Lib.hid fun j2 hj h => by
              rcases Nat.lt_or_ge j2 j with h3 | h3
              · exact HNo.out j2 hj h3
              · have : j2 = j := by omega
                subst this
                exact HCmp.out
            clear HNo HCmp
            go_wp2
            go_region
            go_wp2
            go_roundw
            case rel => exact ⟨j + 1, by go_num, by omega, (by first | exact HW2 | exact Lib.hid HW2.out), (by first | exact HA | exact Lib.hid (Below.drew HA.out)), HNo2⟩
            case measure => simp [intOf]; omega
          · have hyes := sk_yes (g := id) (l := l) hjcs hjlt HCmp.out
            have hRf : R = false := by rw [← HR.out, HD.out, hyes]; rfl
            subst hRf
            clear HNo HCmp HD HSn hyes
            go_wp2
            go_region
            go_wp2
            go_ret
            exact HE.out _ (by first | exact HA.out | exact Below.drew HA.out)
        · have hjke : j = k := by omega
          have hno := sk_no (g := id) (l := l) (cs := cs) (k := k) (by omega) (fun j2 hj h => HNo.out j2 hj (by omega))
          have HR2 : Hid (freshB id (sk id l cs (k + 1)) (textsOf l (cs.drop (k + 1))) = R) := Lib.hid (by rw [← HR.out, HD.out, hno, HSn.out]; rfl)
          subst hjke
          clear hno HNo HD HSn
          go_wp2
          go_roundw
          case rel => exact ⟨j + 1, by go_num, by omega, (by first | exact HW2 | exact Lib.hid HW2.out), (by first | exact HA | exact Lib.hid (Below.drew HA.out)), HR2⟩
          case measure => simp [intOf]; omega
    · have hRt : R = true := by
        rw [← HR.out, List.drop_eq_nil_of_le (by have := HCn.out; omega)]
        rfl
      have hkm : k = m := by omega
      subst hRt hkm
      go_wp2
      go_ret
      exact HE.out _ (by first | exact HA.out | exact Below.drew HA.out)
set_option maxRecDepth 100000 in
set_option maxHeartbeats 16000000 in
theorem extra1 (l : List Nd) (n : Nat) (x : Nd) (lv : Value) (w : World) (h : Xh w lv l n x) (hkind : x.kind = 1) :
    Calls Tryz.prog 30 #[lv, .int .i64 (n : Int)] w (ExtraIs l x w) := by
  have hnd := h.st.nds
  have hlt := h.lt
  have hokx := h.okl x (List.mem_of_getElem? h.is)
  have hxe : l[n] = x := (List.getElem?_eq_some_iff.1 h.is).2
  obtain ⟨al, cl, rfl⟩ := hnd.shape
  obtain ⟨b, o, kv, rfl, hb2, d0, d1, d2, d3, d4⟩ := hnd.at n h.lt
  obtain ⟨av, cv, rfl⟩ := d4.shape
  have hcp := h.st.cap b o _ cl rfl n h.lt _ _ _ d2
  rw [hxe] at d0 d1 d2 d3 d4 hcp
  have HX := Lib.hid h
  obtain ⟨x0, x1, ks, x3⟩ := x
  simp only at d0 d1 d2 d3 d4 hcp hkind
  have hni : (n : Int) < (l.length : Int) := by omega
  have hn0 : (0 : Int) ≤ (n : Int) := by omega
  have HKd := Lib.hid (fun (W : World) (h : Below w.heap.size w W) => d4.below (Nat.le_refl _) h)
  have HNd := Lib.hid (fun (W : World) (h : Below w.heap.size w W) => hnd.below (Nat.le_refl _) h)
  subst hkind
  have he : rextraB l ⟨1, x1, ks, x3⟩ = unlikeB (·.take 1) (textsOf l ks.dropLast) := by simp [rextraB]
  have HE : Hid (∀ w', Below w.heap.size w w' → ExtraIs l ⟨1, x1, ks, x3⟩ w (.returned (.bool (unlikeB (·.take 1) (textsOf l ks.dropLast)))) w') := Lib.hid fun w' hb => ⟨by rw [he], hb⟩
  obtain ⟨R, hR⟩ : ∃ R, unlikeB (·.take 1) (textsOf l ks.dropLast) = R := ⟨_, rfl⟩
  have HO : Hid (∀ k ∈ ks, 0 ≤ k ∧ k < (l.length : Int)) := Lib.hid fun k hk => by have := h.kids k hk; have := h.lt; omega
  have HOl := Lib.hid h.okl
  have hkl : ks.length < 1000000 := h.kl
  obtain ⟨cs, hcs⟩ : ∃ cs, ks.dropLast = cs := ⟨_, rfl⟩
  rw [hR] at HE
  rw [hcs] at hR
  have HR0 : Hid (freshB (·.take 1) (sk (·.take 1) l cs 0) (textsOf l (cs.drop 0)) = R) := Lib.hid hR
  have hfp := fit_prog h.fit
  have hpos : 0 < ks.length := by
    have hkn : (kindsOf l ks).length = ks.length := by simp [kindsOf]
    have h1 : 0 < (kindsOf l ks).length := hfp.1
    omega
  obtain ⟨m, hm⟩ : ∃ m, ks.length = m + 1 := ⟨ks.length - 1, by omega⟩
  have HCn : Hid (cs.length = m) := Lib.hid (by rw [← hcs, List.length_dropLast]; omega)
  have HCk : Hid (∀ (j : Nat) (hj : j < cs.length) (hj2 : j < ks.length), cs[j] = ks[j]) := Lib.hid fun j hj hj2 => by simp only [← hcs]; exact List.getElem_dropLast _
  have HCh : Hid (∀ k ∈ cs, chanB (ndAt l k).text = true) := Lib.hid fun k hk => by
    have hkm : k ∈ ks.dropLast := by rw [hcs]; exact hk
    have hk0 : kindAt l k = 2 := hfp.2 _ (by unfold kindsOf; rw [map_dropLast]; exact List.mem_map_of_mem hkm)
    have hkk := h.kids k (List.dropLast_subset _ hkm)
    obtain ⟨q, rfl⟩ : ∃ q : Nat, k = (q : Int) := ⟨k.toNat, by omega⟩
    have hq : q < l.length := by have := h.lt; omega
    have hg := (h.dn q l[q] (by omega) (List.getElem?_eq_getElem hq)).text
    rw [kindAt_q hq] at hk0
    rw [ndAt_q hq]
    unfold textB at hg
    rw [if_pos hk0] at hg
    exact hg
  have hcp1 : (m : Int) + 1 ≤ (cv : Int) := by omega
  have hmc : (m : Int) ≤ (cv : Int) := by omega
  have hm0 : (0 : Int) ≤ (m : Int) := by omega
  have hmw : wrap64 (m : Int) = (m : Int) := NumM.w64_id (by omega) (by omega)
  have HKd2 : Hid (∀ W, Below w.heap.size w W → KidsAt W (.slice av (m + 1) cv) ks) := Lib.hid fun W hb => by rw [← hm]; exact HKd.out W hb
  have HKl : Hid (ks.length = m + 1) := Lib.hid hm
  clear hfp hpos
  rw [hm] at hcp hkl d2
  have HA : Hid (Below w.heap.size w (w.alloc (.cells #[.int .i64 1, .string x1, .slice av (m + 1) cv, .int .i64 x3] 35))) := Lib.hid ((Below.refl _ w).alloc (Nat.le_refl _) _)
  have hN := Has.new w 35 [.int .i64 1, .string x1, .slice av (m + 1) cv, .int .i64 x3]
  clear he hR hcs HX HKd d4 hnd h hxe hlt hokx hm
  go_enter Tryz.func30, Tryz.ntmps30
  go_wp2
  generalize hW : World.alloc w (.cells #[.int .i64 1, .string x1, .slice av (m + 1) cv, .int .i64 x3] 35) = w1 at HA hN ⊢
  generalize hNe : w.heap.size = N at hN ⊢
  have n2 := hN.cell 2
  have nl := hN.lt
  simp only [List.getElem?_cons_succ, List.getElem?_cons_zero] at n2
  clear hN hW d0 d1 d2 d3 hmw hcp1
  go_loopw [139] (fun i wr => ∃ k : Nat, i = .int .i64 (k : Int) ∧ k ≤ m ∧ Hid (wr.heap = w1.heap) ∧ Hid (Below w.heap.size w wr) ∧ Hid (freshB (·.take 1) (sk (·.take 1) l cs k) (textsOf l (cs.drop k)) = R)) (fun i _ => m - (intOf i).toNat)
  case atStart => exact ⟨0, rfl, by omega, Lib.hid rfl, HA, HR0⟩
  case round =>
    obtain ⟨k, rfl, hkk, HW, HAw, HR⟩ := hrel
    replace n2 := cell_heap HW.out n2
    replace nl : N < wr.heap.size := by rw [HW.out]; exact nl
    clear HA
    have HA := HAw
    clear HAw
    by_cases hlt : k < m
    · have hk1 : (k : Int) < (m : Int) := by omega
      have hk0 : (0 : Int) ≤ (k : Int) := by omega
      have hkc : (k : Int) ≤ (cv : Int) := by omega
      have hkl2 : k < ks.length := by have := HKl.out; omega
      have hkcs : k < cs.length := by have := HCn.out; omega
      obtain ⟨g2, o2, hg1, hg2, z0⟩ := (HKd2.out _ HA.out).at k hkl2
      have hy := HO.out _ (List.getElem_mem hkl2)
      have HD := Lib.hid (fresh_drop (g := (·.take 1)) (l := l) (S := sk (·.take 1) l cs k) hkcs)
      have HSn := Lib.hid (sk_next (g := (·.take 1)) (l := l) hkcs)
      have hck := HCk.out k hkcs hkl2
      have hchk := HCh.out _ (List.getElem_mem hkcs)
      rw [hck] at hchk
      rw [hck] at HD HSn
      generalize ks[k] = y at z0 hy HD HSn hchk
      obtain ⟨q, rfl⟩ : ∃ q : Nat, y = (q : Int) := ⟨y.toNat, by omega⟩
      have hql : q < l.length := by omega
      have hqi : (q : Int) < (l.length : Int) := by omega
      have hq0 : (0 : Int) ≤ (q : Int) := by omega
      obtain ⟨b2, o3, kv2, hb1, hb3, e0, e1, -⟩ := (HNd.out _ HA.out).at q hql
      injection hb1 with hb1
      injection hb1 with hb4 hb5
      subst hb4 hb5
      have htx : txt l (q : Int) = l[q].text.data.toList := by simp [txt, ndAt, List.getD, hql]
      rw [htx] at HD HSn
      rw [ndAt_q hql] at hchk
      generalize l[q].text = tk at e1 HD HSn hchk
      obtain ⟨ik, hik8, hszk, hbk, htkk⟩ := chan_byte hchk
      rw [byte0 hszk] at hbk
      have hszki : (0 : Int) < (tk.size : Int) := by omega
      rw [htkk] at HD HSn
      subst hg1
      clear htx e0 hck hchk
      go_wp2
      go_loopw [149] (fun i wr2 => ∃ j : Nat, i = .int .i64 (j : Int) ∧ j ≤ k ∧ Hid (wr2.heap = w1.heap) ∧ Hid (Below w.heap.size w wr2) ∧ Hid (∀ (j2 : Nat) (hj : j2 < cs.length), j2 < j → ((·.take 1) (txt l cs[j2]) == [UInt8.ofNat (48 + ik)]) = false)) (fun i _ => k - (intOf i).toNat)
      case atStart => exact ⟨0, rfl, by omega, HW, HA, Lib.hid (fun j2 hj h => by omega)⟩
      case round =>
        obtain ⟨j, rfl, hjk, HW2, HAw2, HNo⟩ := hrel
        replace e1 := cell_heap (HW2.out.trans HW.out.symm) e1
        clear HA n2 nl z0
        have HA := HAw2
        clear HAw2
        by_cases hjlt : j < k
        · have hj1 : (j : Int) < (k : Int) := by omega
          have hjl2 : j < ks.length := by omega
          have hjcs : j < cs.length := by omega
          obtain ⟨g3, o4, hg3, hg4, z1⟩ := (HKd2.out _ HA.out).at j hjl2
          injection hg3 with hg3
          injection hg3 with hg5 hg6
          subst hg5 hg6
          have hy2 := HO.out _ (List.getElem_mem hjl2)
          have hcj := HCk.out j hjcs hjl2
          have hchj := HCh.out _ (List.getElem_mem hjcs)
          rw [hcj] at hchj
          have HTj : Hid (txt l cs[j] = txt l ks[j]) := Lib.hid (by rw [hcj])
          generalize ks[j] = y2 at z1 hy2 HTj hchj
          obtain ⟨q2, rfl⟩ : ∃ q2 : Nat, y2 = (q2 : Int) := ⟨y2.toNat, by omega⟩
          have hql2 : q2 < l.length := by omega
          have hqi2 : (q2 : Int) < (l.length : Int) := by omega
          have hq02 : (0 : Int) ≤ (q2 : Int) := by omega
          obtain ⟨b3, o5, kv3, hb6, hb7, f0, f1, -⟩ := (HNd.out _ HA.out).at q2 hql2
          injection hb6 with hb6
          injection hb6 with hb8 hb9
          subst hb8 hb9
          have htx2 : txt l (q2 : Int) = l[q2].text.data.toList := by simp [txt, ndAt, List.getD, hql2]
          rw [htx2] at HTj
          rw [ndAt_q hql2] at hchj
          generalize l[q2].text = tm at f1 HTj hchj
          obtain ⟨im, him8, hszm, hbm, htkm⟩ := chan_byte hchj
          rw [byte0 hszm] at hbm
          have hszmi : (0 : Int) < (tm.size : Int) := by omega
          have HG : Hid ((txt l cs[j]).take 1 = [UInt8.ofNat (48 + im)]) := Lib.hid (by rw [HTj.out]; exact htkm)
          obtain ⟨bb, hbb⟩ : ∃ bb, (((tk[0]'hszk).toNat : Int) == ((tm[0]'hszm).toNat : Int)) = bb := ⟨_, rfl⟩
          have HCmp : Hid (((txt l cs[j]).take 1 == [UInt8.ofNat (48 + ik)]) = bb) := Lib.hid (by
            rw [HG.out, ← hbb]
            by_cases e : im = ik
            · subst e
              have : (tk[0]'hszk).toNat = (tm[0]'hszm).toNat := by omega
              rw [this]
              simp
            · have h1 : ([UInt8.ofNat (48 + im)] == [UInt8.ofNat (48 + ik)]) = false := by
                simp only [beq_eq_false_iff_ne, ne_eq, List.cons.injEq, and_true]
                intro h
                have := congrArg UInt8.toNat h
                rw [UInt8.toNat_ofNat', UInt8.toNat_ofNat'] at this
                omega
              rw [h1]
              symm
              simp only [beq_eq_false_iff_ne, ne_eq]
              omega)
          clear htkm hchj
          clear htx2 f0 hcj
          cases bb
          · have HNo2 : Hid (∀ (j2 : Nat) (hj : j2 < cs.length), j2 < j + 1 → ((·.take 1) (txt l cs[j2]) == [UInt8.ofNat (48 + ik)]) = false) := Lib.hid fun j2 hj h => by
              rcases Nat.lt_or_ge j2 j with h3 | h3
              · exact HNo.out j2 hj h3
              · have : j2 = j := by omega
                subst this
                exact HCmp.out
            clear HNo HCmp
            go_wp2
            go_region
            go_wp2
            go_roundw
            case rel => exact ⟨j + 1, by go_num, by omega, (by first | exact HW2 | exact Lib.hid HW2.out), (by first | exact HA | exact Lib.hid (Below.drew HA.out)), HNo2⟩
            case measure => simp [intOf]; omega
          · have hyes := sk_yes (g := (·.take 1)) (l := l) hjcs hjlt HCmp.out
            have hRf : R = false := by rw [← HR.out, HD.out, hyes]; rfl
            subst hRf
            clear HNo HCmp HD HSn hyes
            go_wp2
            go_region
            go_wp2
            go_ret
            exact HE.out _ (by first | exact HA.out | exact Below.drew HA.out)
        · have hjke : j = k := by omega
          have hno := sk_no (g := (·.take 1)) (l := l) (cs := cs) (k := k) (by omega) (fun j2 hj h => HNo.out j2 hj (by omega))
          have HR2 : Hid (freshB (·.take 1) (sk (·.take 1) l cs (k + 1)) (textsOf l (cs.drop (k + 1))) = R) := Lib.hid (by rw [← HR.out, HD.out, hno, HSn.out]; rfl)
          subst hjke
          clear hno HNo HD HSn
          go_wp2
          go_roundw
          case rel => exact ⟨j + 1, by go_num, by omega, (by first | exact HW2 | exact Lib.hid HW2.out), (by first | exact HA | exact Lib.hid (Below.drew HA.out)), HR2⟩
          case measure => simp [intOf]; omega
    · have hRt : R = true := by
        rw [← HR.out, List.drop_eq_nil_of_le (by have := HCn.out; omega)]
        rfl
      have hkm : k = m := by omega
      subst hRt hkm
      go_wp2
      go_ret
      exact HE.out _ (by first | exact HA.out | exact Below.drew HA.out)
theorem extra_any (l : List Nd) (n : Nat) (x : Nd) (lv : Value) (w : World) (h : Xh w lv l n x) : Calls Tryz.prog 30 #[lv, .int .i64 (n : Int)] w (ExtraIs l x w) := by
  by_cases h1 : x.kind = 1
  · exact extra1 l n x lv w h h1
  · by_cases h3 : x.kind = 3
    · exact extra3 l n x lv w h h3
    · by_cases h67 : x.kind = 6 ∨ x.kind = 7
      · exact extra67 l n x lv w h h67
      · by_cases h21 : x.kind = 21
        · exact extra21 l n x lv w h h21
        · by_cases h32 : x.kind = 32
          · exact extra32 l n x lv w h h32
          · exact extraElse l n x lv w h ⟨h1, h3, fun e => h67 (.inl e), fun e => h67 (.inr e), h21, h32⟩
end TreeD
end Go.Proofs.YtakdmlaecidjaaaGreatDoor
