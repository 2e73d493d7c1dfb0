/- What neither kinds nor texts tell, part by part: the program's. -/
import Derived.Test.YtmdkocegnbcgmaaGreatDoorZ11
import Derived.BigQuiet
import Derived.WalkSmall
import Derived.StillTailTactics
import Derived.Deep.RegionHeld3
import Derived.Maps.OwnSet
import Derived.Carry
namespace Go.Proofs.YtmdkocegnbcgmaaGreatDoor
open Go.RowKit ObjM
namespace TreeD

/-- The nodes that are looked at. -/
structure Ck (w : World) (C : Nat) (lv dv : Value) (l : List Nd) : Prop where
  c : Has w C 88 [lv, dv]
  l : NdsAt w lv l
theorem Ck.below {w w' : World} {C : Nat} {lv dv : Value} {l : List Nd} (h : Ck w C lv dv l) (hb : Below w.heap.size w w') : Ck w' C lv dv l := ⟨h.c.below hb h.c.lt, h.l.below (Nat.le_refl _) hb⟩
theorem last_take {l : List Nd} {ks : List Int} {k : Nat} (hk : k + 1 < ks.length) : lastB l (ks.drop k) = (!(decide (kindAt l ks[k] = 10) || decide (kindAt l ks[k] = 11)) && lastB l (ks.drop (k + 1))) := by
  unfold lastB kindsOf
  rw [List.drop_eq_getElem_cons (show k < ks.length by omega), List.dropLast_cons_of_ne_nil]
  · simp
  · intro e
    have := congrArg List.length e
    simp at this
    omega
theorem last_end {l : List Nd} {ks : List Int} {k : Nat} (hk : ks.length ≤ k + 1) : lastB l (ks.drop k) = true := by
  have h : (ks.drop k).dropLast = [] := by
    apply List.eq_nil_of_length_eq_zero
    simp
    omega
  unfold lastB kindsOf
  rw [h]
  rfl
set_option maxRecDepth 100000 in
set_option maxHeartbeats 8000000 in
theorem last_any (x0 : Int) (x1 : ByteArray) (ks : List Int) (x3 : Int) (kv lv dv : Value) (l : List Nd) (C : Nat) (w : World) (hC : Ck w C lv dv l) (hk : KidsAt w kv ks) (hok : ∀ k ∈ ks, 0 ≤ k ∧ k < (l.length : Int)) (hkl : ks.length ≤ 140737488355328) (_hll : l.length ≤ 100000) :
    Calls Tryz.prog 112 #[.pointer (some ⟨C, 0, none⟩), .agg #[.int .i64 x0, .string x1, kv, .int .i64 x3]] w fun e w' => e = .returned (.bool (lastB l ks)) ∧ Below w.heap.size w w' := by
  obtain ⟨R, hR⟩ : ∃ R, lastB l ks = R := ⟨_, rfl⟩
  have HR0 : Hid (lastB l (ks.drop 0) = R) := Lib.hid hR
  rw [hR]
  have HO := Lib.hid hok
  have hA : Below w.heap.size w (w.alloc (.cells #[.int .i64 x0, .string x1, kv, .int .i64 x3] 40)) := (Below.refl _ w).alloc (Nat.le_refl _) _
  have hN := Has.new w 40 [.int .i64 x0, .string x1, kv, .int .i64 x3]
  have hC2 := hC.below hA
  have hk2 := hk.below (Nat.le_refl _) hA
  have HA : Hid (Below w.heap.size w (w.alloc (.cells #[.int .i64 x0, .string x1, kv, .int .i64 x3] 40))) := Lib.hid hA
  obtain ⟨av, cv, rfl⟩ := hk.shape
  obtain ⟨al, cl, rfl⟩ := hC.l.shape
  clear hR hok hA hC hk
  go_enter Tryz.func112, Tryz.ntmps112
  go_wp2
  change Code.wp _ _ _ _ (World.alloc w _)
  generalize World.alloc w (.cells #[.int .i64 x0, .string x1, .slice av ks.length cv, .int .i64 x3] 40) = w1 at hN hC2 hk2 HA ⊢
  generalize hNe : w.heap.size = N at hN ⊢
  have n2 := hN.cell 2
  have nl := hN.lt
  have e0 := hC2.c.cell 0
  have el := hC2.c.lt
  simp at n2 e0
  have HK := Lib.hid hk2
  have HL := Lib.hid hC2.l
  clear hN hk2 hC2
  go_wp2
  go_loopw [11] (fun i wr => ∃ k : Nat, i = .int .i64 (k : Int) ∧ k ≤ ks.length ∧ Hid (wr = w1) ∧ Hid (lastB l (ks.drop k) = R)) (fun i _ => ks.length - (intOf i).toNat)
  case atStart => exact ⟨0, rfl, by omega, Lib.hid rfl, HR0⟩
  case round =>
    obtain ⟨k, rfl, hkk, HW, HR⟩ := hrel
    obtain rfl := HW.out
    clear HW
    by_cases hlt : k < ks.length
    · have hk1 : (k : Int) < (ks.length : Int) := by omega
      obtain ⟨g, o, hg1, hg2, z0⟩ := HK.out.at k hlt
      have hy := HO.out _ (List.getElem_mem hlt)
      have HS : Hid (k + 1 < ks.length → lastB l (ks.drop k) = (!(decide (kindAt l ks[k] = 10) || decide (kindAt l ks[k] = 11)) && lastB l (ks.drop (k + 1)))) := Lib.hid fun h => last_take h
      generalize ks[k] = y at z0 hy HS
      obtain ⟨q, rfl⟩ : ∃ q : Nat, y = (q : Int) := ⟨y.toNat, by omega⟩
      have hql : q < l.length := by omega
      have hqi : (q : Int) < (l.length : Int) := by omega
      have hq0 : (0 : Int) ≤ (q : Int) := by omega
      obtain ⟨b, o2, kv2, hb1, hb2, d0, -⟩ := HL.out.at q hql
      have hka : kindAt l (q : Int) = l[q].kind := by simp [kindAt, ndAt, List.getD, hql]
      rw [hka] at HS
      generalize l[q].kind = kd at d0 HS
      subst hg1 hb1
      by_cases hend : k + 1 < ks.length
      · have HS2 := Lib.hid (HS.out hend)
        have hend1 : (k : Int) < (ks.length : Int) - 1 := by omega
        by_cases h10 : kd = 10
        · subst h10
          have hRf : R = false := by rw [← HR.out, HS2.out]; rfl
          subst hRf
          clear HS HS2 hka
          go_wp2
          go_ret
          exact ⟨rfl, hNe ▸ HA.out⟩
        · by_cases h11 : kd = 11
          · subst h11
            have hRf : R = false := by rw [← HR.out, HS2.out]; rfl
            subst hRf
            clear HS HS2 hka
            go_wp2
            go_ret
            exact ⟨rfl, hNe ▸ HA.out⟩
          · have HR2 : Hid (lastB l (ks.drop (k + 1)) = R) := Lib.hid (by rw [← HR.out, HS2.out]; simp [h10, h11])
            clear HS HS2 hka HR
            go_wp2
            go_roundw
            case rel => exact ⟨k + 1, by go_num, by omega, (by first | exact Lib.hid rfl | exact Lib.hid trivial), HR2⟩
            case measure => simp [intOf]; omega
      · have hend1 : ¬ (k : Int) < (ks.length : Int) - 1 := by omega
        have HR2 : Hid (lastB l (ks.drop (k + 1)) = R) := Lib.hid (by rw [← HR.out, last_end (by omega), last_end (by omega)])
        clear HS hka HR
        by_cases h10 : kd = 10
        · subst h10
          go_wp2
          go_roundw
          case rel => exact ⟨k + 1, by go_num, by omega, (by first | exact Lib.hid rfl | exact Lib.hid trivial), HR2⟩
          case measure => simp [intOf]; omega
        · by_cases h11 : kd = 11
          · subst h11
            go_wp2
            go_roundw
            case rel => exact ⟨k + 1, by go_num, by omega, (by first | exact Lib.hid rfl | exact Lib.hid trivial), HR2⟩
            case measure => simp [intOf]; omega
          · go_wp2
            go_roundw
            case rel => exact ⟨k + 1, by go_num, by omega, (by first | exact Lib.hid rfl | exact Lib.hid trivial), HR2⟩
            case measure => simp [intOf]; omega
    · have hRt : R = true := by rw [← HR.out, last_end (by omega)]
      have hkm : k = ks.length := by omega
      subst hRt hkm
      go_wp2
      go_ret
      exact ⟨rfl, hNe ▸ HA.out⟩
end TreeD
end Go.Proofs.YtmdkocegnbcgmaaGreatDoor

namespace Go.Proofs.YtmdkocegnbcgmaaGreatDoor
open Go.RowKit ObjM
namespace TreeD

theorem kindAt_q {l : List Nd} {q : Nat} (hq : q < l.length) : kindAt l (q : Int) = l[q].kind := by simp [kindAt, ndAt, List.getD, hq]
theorem ndAt_q {l : List Nd} {q : Nat} (hq : q < l.length) : ndAt l (q : Int) = l[q] := by simp [ndAt, List.getD, hq]
theorem Good.fit {l : List Nd} {i : Nat} {x : Nd} (h : Good l i x) : fitB (WANT.getD x.kind.toNat []) (kindsOf l x.kids) = true := by
  have := h.own
  unfold ownB at this
  simp only [Bool.and_eq_true] at this
  exact this.2.2.2.1
theorem Good.text {l : List Nd} {i : Nat} {x : Nd} (h : Good l i x) : textB x = true := by
  have := h.own
  unfold ownB at this
  simp only [Bool.and_eq_true] at this
  exact this.2.2.2.2.1
theorem down_kid {l : List Nd} {i : Nat} {x : Nd} (h : Good l i x) (hk : x.kind = 18 ∨ x.kind = 19 ∨ x.kind = 20) : ∃ k r, x.kids = k :: r := by
  have hf := h.fit
  cases hx : x.kids with
  | cons k r => exact ⟨k, r, rfl⟩
  | nil =>
    rw [hx] at hf
    rcases hk with hk | hk | hk
    all_goals
      rw [hk] at hf
      exact absurd (show fitB _ [] = true from hf) (by decide)
theorem root_step {l : List Nd} {f : Nat} {q : Nat} (hq : q < l.length) (hk : l[q].kind = 18 ∨ l[q].kind = 19 ∨ l[q].kind = 20) {k : Int} {r : List Int} (hx : l[q].kids = k :: r) : rootV l (f + 1) (q : Int) = rootV l f k := by
  show (if kindAt l (q : Int) = 18 ∨ kindAt l (q : Int) = 19 ∨ kindAt l (q : Int) = 20 then rootV l f ((ndAt l (q : Int)).kids.getD 0 0) else _) = _
  rw [kindAt_q hq, if_pos hk, ndAt_q hq, hx]
  rfl
theorem root_end {l : List Nd} {f : Nat} {q : Nat} (hq : q < l.length) (hk : ¬ (l[q].kind = 18 ∨ l[q].kind = 19 ∨ l[q].kind = 20)) : rootV l f (q : Int) = l[q].kind := by
  cases f with
  | zero => exact kindAt_q hq
  | succ f =>
    show (if kindAt l (q : Int) = 18 ∨ kindAt l (q : Int) = 19 ∨ kindAt l (q : Int) = 20 then _ else _) = _
    rw [kindAt_q hq, if_neg hk]
set_option maxRecDepth 100000 in
set_option maxHeartbeats 8000000 in
theorem base_any (lv dv : Value) (l : List Nd) (C n q : Nat) (w : World) (hC : Ck w C lv dv l) (hD : Done l n) (hq : q < n) (hn : n ≤ l.length) (hok : ∀ n ∈ l, NdOk n) :
    Calls Tryz.prog 113 #[.pointer (some ⟨C, 0, none⟩), .int .i64 (q : Int)] w fun e w' => e = .returned (.bool (baseB l (q : Int))) ∧ w = w' := by
  obtain ⟨R, hR⟩ : ∃ R, rootV l q (q : Int) = R := ⟨_, rfl⟩
  have hbr : baseB l (q : Int) = (decide (R = 17) || decide (R = 21)) := by
    unfold baseB
    simp only [Int.toNat_natCast, hR]
  rw [hbr]
  have HD := Lib.hid hD
  have HO := Lib.hid hok
  obtain ⟨al, cl, rfl⟩ := hC.l.shape
  have e0 := hC.c.cell 0
  have el := hC.c.lt
  have HL := Lib.hid hC.l
  have HR0 := Lib.hid hR
  simp at e0
  clear hR hbr hD hok hC
  go_enter Tryz.func113, Tryz.ntmps113
  go_wp2
  go_loopw [1] (fun i wr => ∃ k f : Nat, i = .int .i64 (k : Int) ∧ k < n ∧ k ≤ f ∧ Hid (wr = w) ∧ Hid (rootV l f (k : Int) = R)) (fun i _ => (intOf i).toNat)
  case atStart => exact ⟨q, q, rfl, hq, by omega, Lib.hid rfl, HR0⟩
  case round =>
    obtain ⟨k, f, rfl, hk, hkf, HW, HR⟩ := hrel
    obtain rfl := HW.out
    clear HW HR0
    have hkl : k < l.length := by omega
    have hki : (k : Int) < (l.length : Int) := by omega
    have hk0 : (0 : Int) ≤ (k : Int) := by omega
    obtain ⟨b, o2, kv2, hb1, hb2, d0, d1, d2, d3, d4⟩ := HL.out.at k hkl
    have hg := HD.out k l[k] hk (List.getElem?_eq_getElem hkl)
    by_cases hkind : l[k].kind = 18 ∨ l[k].kind = 19 ∨ l[k].kind = 20
    · obtain ⟨y, r, hx⟩ := down_kid hg hkind
      have hy := hg.kids y (by rw [hx]; simp)
      obtain ⟨f2, rfl⟩ : ∃ f2, f = f2 + 1 := ⟨f - 1, by omega⟩
      have HR2 : Hid (rootV l f2 y = R) := Lib.hid (by rw [← HR.out, root_step hkl hkind hx])
      rw [hx] at d4
      obtain ⟨av, cap, rfl⟩ := d4.shape
      obtain ⟨g, o, rfl, hg2, z0⟩ := d4.at 0 (by simp)
      obtain ⟨p, rfl⟩ : ∃ p : Nat, y = (p : Int) := ⟨y.toNat, by omega⟩
      have hlen : (0 : Int) < ((((p : Int) :: r).length : Nat) : Int) := by simp only [List.length_cons]; omega
      subst hb1
      obtain ⟨kd, hkd⟩ : ∃ kd, l[k].kind = kd := ⟨_, rfl⟩
      rw [hkd] at d0 hkind
      simp only [List.getElem_cons_zero, Nat.add_zero] at z0
      have hpk : p < k := by omega
      obtain ⟨m, hm⟩ : ∃ m, ((p : Int) :: r).length = m := ⟨_, rfl⟩
      rw [hm] at d2 hlen
      clear hg hx hkd d1 d3 d4 HR hy
      rcases hkind with rfl | rfl | rfl
      all_goals
        go_wp2
        go_roundw
        case rel => exact ⟨p, f2, rfl, by omega, by omega, (by first | exact Lib.hid rfl | exact Lib.hid trivial), HR2⟩
        case measure => simp [intOf]; omega
    · have hRe : R = l[k].kind := by rw [← HR.out, root_end hkl hkind]
      subst hb1
      obtain ⟨kd, hkd⟩ : ∃ kd, l[k].kind = kd := ⟨_, rfl⟩
      rw [hkd] at d0 hkind hRe
      subst hRe
      clear hg hkd d1 d2 d3 d4 HR
      have g1 : ¬ R = 18 := fun e => hkind (.inl e)
      have g2 : ¬ R = 19 := fun e => hkind (.inr (.inl e))
      have g3 : ¬ R = 20 := fun e => hkind (.inr (.inr e))
      by_cases h17 : R = 17
      · subst h17
        go_wp2
        go_ret
        exact ⟨rfl, rfl⟩
      · by_cases h21 : R = 21
        · subst h21
          go_wp2
          go_ret
          exact ⟨rfl, rfl⟩
        · go_wp2
          go_ret
          exact ⟨by simp [h17, h21], rfl⟩
theorem arg_len {l : List Nd} {x : Nd} (h : (x.kids.length : Int) ≠ builtinV x.text) : argsB l x = false := by
  unfold argsB
  rw [decide_eq_false h]
  rfl
theorem arg_other {l : List Nd} {x : Nd} (h : (x.kids.length : Int) = builtinV x.text) (h1 : ¬ x.text = READ) (h2 : ¬ x.text = WRITE) : argsB l x = true := by
  unfold argsB
  rw [decide_eq_true h, if_neg]
  · rfl
  · rw [memB_iff]
    simp [h1, h2]
theorem arg_first {l : List Nd} {x : Nd} (h : (x.kids.length : Int) = builtinV x.text) (h1 : x.text = READ ∨ x.text = WRITE) : argsB l x = firstB l (x.kids.getD 0 0) := by
  unfold argsB
  rw [decide_eq_true h, if_pos]
  · rfl
  · rw [memB_iff]
    simpa using h1
theorem byte0 {s : ByteArray} (h : 0 < s.size) : byteAt s 0 = (s[0]'h).toNat := by
  unfold byteAt
  have h2 : 0 < s.data.toList.length := h
  rw [List.getD_eq_getElem?_getD, List.getElem?_eq_getElem h2]
  rfl
set_option maxRecDepth 100000 in
set_option maxHeartbeats 8000000 in
theorem args_any (x : Nd) (kv lv dv : Value) (l : List Nd) (C : Nat) (w : World) (hC : Ck w C lv dv l) (hk : KidsAt w kv x.kids) (hok : ∀ k ∈ x.kids, 0 ≤ k ∧ k < (l.length : Int)) (hkl : x.kids.length ≤ 140737488355328) (hokl : ∀ n ∈ l, NdOk n) :
    Calls Tryz.prog 114 #[.pointer (some ⟨C, 0, none⟩), .agg #[.int .i64 x.kind, .string x.text, kv, .int .i64 x.pos]] w fun e w' => e = .returned (.bool (argsB l x)) ∧ Below w.heap.size w w' := by
  have H1 := @arg_len l x
  have H2 := @arg_other l x
  have H3 := @arg_first l x
  obtain ⟨R, hR⟩ : ∃ R, argsB l x = R := ⟨_, rfl⟩
  rw [hR] at H1 H2 H3 ⊢
  obtain ⟨x0, x1, ks, x3⟩ := x
  simp only at *
  have HBu := fun W => Lib.hid (builtin_any x1 W)
  have hA : Below w.heap.size w (w.alloc (.cells #[.int .i64 x0, .string x1, kv, .int .i64 x3] 40)) := (Below.refl _ w).alloc (Nat.le_refl _) _
  have HA : Hid (Below w.heap.size w (w.alloc (.cells #[.int .i64 x0, .string x1, kv, .int .i64 x3] 40))) := Lib.hid hA
  have hN := Has.new w 40 [.int .i64 x0, .string x1, kv, .int .i64 x3]
  have hC2 := hC.below hA
  have hk2 := hk.below (Nat.le_refl _) hA
  obtain ⟨av, cv, rfl⟩ := hk.shape
  obtain ⟨al, cl, rfl⟩ := hC.l.shape
  clear hR hA hC hk
  obtain ⟨bv, hbv⟩ : ∃ bv, builtinV x1 = bv := ⟨_, rfl⟩
  rw [hbv] at HBu H1 H2 H3
  have hbv2 : bv ≤ 2 := by
    rw [← hbv]
    unfold builtinV
    split <;> (try split) <;> omega
  have hbv0 := hbv
  clear hbv
  go_enter Tryz.func114, Tryz.ntmps114
  go_wp2
  change Code.wp _ _ _ _ (World.alloc w _)
  generalize World.alloc w (.cells #[.int .i64 x0, .string x1, .slice av ks.length cv, .int .i64 x3] 40) = w1 at hN hC2 hk2 HA ⊢
  generalize hNe : w.heap.size = N at hN ⊢
  have n1 := hN.cell 1
  have n2 := hN.cell 2
  have nl := hN.lt
  have e0 := hC2.c.cell 0
  have el := hC2.c.lt
  simp at n1 n2 e0
  have HK := Lib.hid hk2
  have HL := Lib.hid hC2.l
  clear hN hk2 hC2
  go_quiet ((go_at_call 107; exact quiet_left ((HBu _).out)))
  have HA2 : Hid (Below w.heap.size w (w1.drewN nq)) := Lib.hid ⟨HA.out.os, HA.out.tape, HA.out.output, HA.out.size, fun k hk => HA.out.block k hk⟩
  have HK2 : Hid (KidsAt (w1.drewN nq) (.slice av ks.length cv) ks) := HK
  have HL2 : Hid (NdsAt (w1.drewN nq) (.slice al l.length cl) l) := HL
  have n1 : (w1.drewN nq).cell? ⟨N, 1, none⟩ = some (.string x1) := n1
  have n2 : (w1.drewN nq).cell? ⟨N, 2, none⟩ = some (.slice av ks.length cv) := n2
  have nl : N < (w1.drewN nq).heap.size := nl
  have e0 : (w1.drewN nq).cell? ⟨C, 0, none⟩ = some (.slice al l.length cl) := e0
  have el : C < (w1.drewN nq).heap.size := el
  generalize w1.drewN nq = w2 at HA2 HK2 HL2 n1 n2 nl e0 el ⊢
  clear HA HK HL
  by_cases hlen : (ks.length : Int) = bv
  · have hne : ((ks.length : Int) != bv) = false := by simp [hlen]
    by_cases hrw : x1 = READ ∨ x1 = WRITE
    · have hRf := H3 hlen hrw
      have hpos : 0 < ks.length := by
        have : bv = 1 ∨ bv = 2 := by
          rw [← hbv0]
          rcases hrw with rfl | rfl
          · exact .inl (by decide)
          · exact .inr (by decide)
        omega
      obtain ⟨g, o, rfl, hg2, z0⟩ := HK2.out.at 0 hpos
      have hy := hok _ (List.getElem_mem hpos)
      have hgd : ks.getD 0 0 = ks[0] := by simp [List.getD, hpos]
      rw [hgd] at hRf
      generalize ks[0] = y at z0 hy hRf
      obtain ⟨q, rfl⟩ : ∃ q : Nat, y = (q : Int) := ⟨y.toNat, by omega⟩
      have hql : q < l.length := by omega
      have hqi : (q : Int) < (l.length : Int) := by omega
      have hq0 : (0 : Int) ≤ (q : Int) := by omega
      have hpi : (0 : Int) < (ks.length : Int) := by omega
      obtain ⟨b, o2, kv2, rfl, hb2, d0, d1, d2, d3, d4⟩ := HL2.out.at q hql
      obtain ⟨av2, cap2, rfl⟩ := d4.shape
      generalize l[q].kids.length = nk2 at d2
      clear d4
      have hfb : firstB l (q : Int) = (decide (l[q].kind = 15) && (decide (l[q].text.size = 1) && decide (byteAt l[q].text 0 ≤ 55))) := by
        unfold firstB
        rw [kindAt_q hql, ndAt_q hql]
      rw [hfb] at hRf
      have hok2 := hokl _ (List.getElem_mem hql)
      generalize l[q] = y at d0 d1 d2 d3 hRf hok2
      obtain ⟨y0, y1, y2, y3⟩ := y
      simp only at d0 d1 d2 d3 hRf
      have hty : y1.size ≤ 140737488355328 := hok2.1
      simp only [Nat.add_zero] at z0
      clear H1 H2 H3 hok HBu hbv2 hbv0 hfb hok2 HK2 HL2
      have HBe : Hid (Below w.heap.size w ((w2.alloc (.cells #[.int .i64 y0, .string y1, .slice av2 nk2 cap2, .int .i64 y3] 40)).drew)) := Lib.hid ((HA2.out.alloc HA2.out.size _).drew)
      obtain ⟨m, hm⟩ : ∃ m, ks.length = m := ⟨_, rfl⟩
      rw [hm] at hpi hne n2 hlen ⊢
      have hpn : 0 < m := by omega
      clear hm hkl hgd hlen
      by_cases h15 : y0 = 15
      · subst h15
        by_cases hsz : y1.size = 1
        · have hszi : (y1.size : Int) = 1 := by omega
          have hzl : 0 < y1.size := by omega
          rw [byte0 hzl, decide_eq_true hsz] at hRf
          simp only [decide_true, Bool.true_and] at hRf
          have hci : decide ((y1[0]'hzl).toNat ≤ 55) = decide (((y1[0]'hzl).toNat : Int) ≤ 55) := by rw [decide_eq_decide]; omega
          rw [hci] at hRf
          clear hci
          subst hRf
          clear hsz
          rcases hrw with rfl | rfl
          all_goals
            simp only [READ, WRITE] at n1 ⊢
            go_wp2
            go_region_held3 (fun W => W.cell? ⟨C, 0, none⟩ = some (.slice (some ⟨b, o2, none⟩) l.length cl) ∧ W.cell? ⟨N, 2, none⟩ = some (.slice (some ⟨g, o, none⟩) m cv) ∧ W.cell? ⟨g, o, none⟩ = some (.int .i64 (q : Int)) ∧ W.cell? ⟨b, o2 + q * 4, none⟩ = some (.int .i64 15) ∧ W.cell? ⟨b, o2 + q * 4 + 1, none⟩ = some (.string y1) ∧ W.cell? ⟨b, o2 + q * 4 + 2, none⟩ = some (.slice av2 nk2 cap2) ∧ W.cell? ⟨b, o2 + q * 4 + 3, none⟩ = some (.int .i64 y3)) (go_keep) (fail)
            go_wp2
            go_ret
            exact ⟨rfl, HBe.out⟩
        · have hszi : ¬ (y1.size : Int) = 1 := by omega
          rw [decide_eq_false hsz] at hRf
          simp only [Bool.false_and, Bool.and_false] at hRf
          subst hRf
          clear hsz
          rcases hrw with rfl | rfl
          all_goals
            simp only [READ, WRITE] at n1 ⊢
            go_wp2
            go_region_held3 (fun W => W.cell? ⟨C, 0, none⟩ = some (.slice (some ⟨b, o2, none⟩) l.length cl) ∧ W.cell? ⟨N, 2, none⟩ = some (.slice (some ⟨g, o, none⟩) m cv) ∧ W.cell? ⟨g, o, none⟩ = some (.int .i64 (q : Int)) ∧ W.cell? ⟨b, o2 + q * 4, none⟩ = some (.int .i64 15) ∧ W.cell? ⟨b, o2 + q * 4 + 1, none⟩ = some (.string y1) ∧ W.cell? ⟨b, o2 + q * 4 + 2, none⟩ = some (.slice av2 nk2 cap2) ∧ W.cell? ⟨b, o2 + q * 4 + 3, none⟩ = some (.int .i64 y3)) (go_keep) (fail)
            go_wp2
            go_ret
            exact ⟨rfl, HBe.out⟩
      · rw [decide_eq_false h15] at hRf
        simp only [Bool.false_and] at hRf
        subst hRf
        rcases hrw with rfl | rfl
        all_goals
          simp only [READ, WRITE] at n1 ⊢
          go_wp2
          go_region_held3 (fun W => W.cell? ⟨C, 0, none⟩ = some (.slice (some ⟨b, o2, none⟩) l.length cl) ∧ W.cell? ⟨N, 2, none⟩ = some (.slice (some ⟨g, o, none⟩) m cv) ∧ W.cell? ⟨g, o, none⟩ = some (.int .i64 (q : Int)) ∧ W.cell? ⟨b, o2 + q * 4, none⟩ = some (.int .i64 y0) ∧ W.cell? ⟨b, o2 + q * 4 + 1, none⟩ = some (.string y1) ∧ W.cell? ⟨b, o2 + q * 4 + 2, none⟩ = some (.slice av2 nk2 cap2) ∧ W.cell? ⟨b, o2 + q * 4 + 3, none⟩ = some (.int .i64 y3)) (go_keep) (fail)
          go_wp2
          go_ret
          exact ⟨rfl, HBe.out⟩
    · have hRf := H2 hlen (fun e => hrw (.inl e)) (fun e => hrw (.inr e))
      subst hRf
      have g1 := ne_list (l := [114, 101, 97, 100]) (s := x1) (fun e => hrw (.inl e))
      have g2 := ne_list (l := [119, 114, 105, 116, 101]) (s := x1) (fun e => hrw (.inr e))
      clear H1 H2 H3
      go_wp2
      go_ret
      exact ⟨rfl, HA2.out⟩
  · have hne : ((ks.length : Int) != bv) = true := by simp [hlen]
    have hRf := H1 hlen
    subst hRf
    clear H1 H2 H3
    go_wp2
    go_ret
    exact ⟨rfl, HA2.out⟩
end TreeD
end Go.Proofs.YtmdkocegnbcgmaaGreatDoor
namespace Go.Proofs.YtmdkocegnbcgmaaGreatDoor
open Go.RowKit ObjM Go.Maps Go.WideMaps
namespace TreeD

def txt (l : List Nd) (k : Int) : List UInt8 := (ndAt l k).text.data.toList
theorem fresh_drop {g : List UInt8 → List UInt8} {l : List Nd} {ks : List Int} {S : List (List UInt8)} {k : Nat} (hk : k < ks.length) :
    freshB g S (textsOf l (ks.drop k)) = (!(S.any fun s => s == g (txt l ks[k])) && freshB g (S ++ [g (txt l ks[k])]) (textsOf l (ks.drop (k + 1)))) := by
  rw [List.drop_eq_getElem_cons hk]
  rfl
theorem keyedStr : Keyed Tryz.prog 9 := string_keyed Tryz.underlying9
theorem key_str (s : ByteArray) (hs : s.size ≤ 140737488355328) : keyOf Tryz.prog 9 (.string s) = some (.string s.data.toList) := keyOf_string_mk Tryz.underlying9 (by unfold maxLen; omega)
/-- A set of texts. -/
def SetOk (w : World) (b N : Nat) (S : List (List UInt8)) : Prop :=
  ∃ D : DataW Unit, w.ownsMap Tryz.prog 9 (unitElem (H := Unit)) b N D ∧ ∀ k, Maps.has D (.string k) = S.any fun s => s == k
theorem set_put {w : World} {b N : Nat} {S : List (List UInt8)} {D : DataW Unit} (hD : w.ownsMap Tryz.prog 9 (unitElem (H := Unit)) b N D) (hq : ∀ k, Maps.has D (.string k) = S.any fun s => s == k) (s : ByteArray) (hs : s.size ≤ 140737488355328) (k : List UInt8) :
    Maps.has (D.put (.string s.data.toList) (.agg [])) (.string k) = (S ++ [s.data.toList]).any fun s => s == k := by
  have hmap := hD.isMap
  have hkk := keyedStr.key (key_str s hs)
  rw [List.any_append]
  by_cases e : k = s.data.toList
  · subst e
    rw [Maps.has_put_same hmap hkk _]
    simp
  · have hne : Lit.string k ≠ Lit.string s.data.toList := fun h => e (by injection h)
    rw [Maps.has_put_other hne, hq k]
    simp [Ne.symm e]
set_option maxRecDepth 100000 in
set_option maxHeartbeats 8000000 in
theorem unlike_any (x0 : Int) (x1 : ByteArray) (ks : List Int) (x3 : Int) (kv lv dv : Value) (l : List Nd) (C : Nat) (w : World) (hC : Ck w C lv dv l) (hk : KidsAt w kv ks) (hok : ∀ k ∈ ks, 0 ≤ k ∧ k < (l.length : Int)) (hkl : ks.length < 1000000) (hokl : ∀ n ∈ l, NdOk n) :
    Calls Tryz.prog 115 #[.pointer (some ⟨C, 0, none⟩), .agg #[.int .i64 x0, .string x1, kv, .int .i64 x3]] w fun e w' => e = .returned (.bool (unlikeB id (textsOf l ks))) ∧ Below w.heap.size w w' := by
  obtain ⟨R, hR⟩ : ∃ R, unlikeB id (textsOf l ks) = R := ⟨_, rfl⟩
  have HR0 : Hid (freshB id [] (textsOf l (ks.drop 0)) = R) := Lib.hid hR
  rw [hR]
  have HO := Lib.hid hok
  have HOl := Lib.hid hokl
  have hmm := @run_makeMap Tryz.prog
  have hN := Has.new w 40 [.int .i64 x0, .string x1, kv, .int .i64 x3]
  have HC := Lib.hid (fun (W : World) (h : Below w.heap.size w W) => hC.below h)
  have HK := Lib.hid (fun (W : World) (h : Below w.heap.size w W) => hk.below (Nat.le_refl _) h)
  obtain ⟨av, cv, rfl⟩ := hk.shape
  obtain ⟨al, cl, rfl⟩ := hC.l.shape
  have hA1 : Below w.heap.size w (w.alloc (.cells #[.int .i64 x0, .string x1, .slice av ks.length cv, .int .i64 x3] 40)) := (Below.refl _ w).alloc (Nat.le_refl _) _
  clear hR hok hC hk hokl
  go_enter Tryz.func115, Tryz.ntmps115
  go_wp2
  change Code.wp _ _ _ _ (World.alloc (World.alloc w _) _)
  have hA2 : Below w.heap.size w (World.alloc (w.alloc (.cells #[.int .i64 x0, .string x1, .slice av ks.length cv, .int .i64 x3] 40)) (.map #[] 0)) := hA1.alloc hA1.size _
  have hs0 : SetOk (World.alloc (w.alloc (.cells #[.int .i64 x0, .string x1, .slice av ks.length cv, .int .i64 x3] 40)) (.map #[] 0)) (w.heap.size + 1) 0 [] := by
    refine ⟨.map [], ?_, fun k => rfl⟩
    have := World.ownsMap_made (H := Unit) (w.alloc (.cells #[.int .i64 x0, .string x1, .slice av ks.length cv, .int .i64 x3] 40)) Tryz.prog 9 (unitElem (H := Unit))
    rw [World.size_alloc] at this
    exact this
  have hK2 := HK.out _ hA2
  clear hA1 hN
  generalize World.alloc (w.alloc (.cells #[.int .i64 x0, .string x1, .slice av ks.length cv, .int .i64 x3] 40)) (.map #[] 0) = w1 at hA2 hs0 hK2 ⊢
  go_loopw [15] (fun i wr => ∃ (k : Nat) (S : List (List UInt8)), i = .int .i64 (k : Int) ∧ k ≤ ks.length ∧ Below w.heap.size w wr ∧ Hid (SetOk wr (w.heap.size + 1) k S) ∧ Hid (freshB id S (textsOf l (ks.drop k)) = R)) (fun i _ => ks.length - (intOf i).toNat)
  case atStart => exact ⟨0, [], rfl, by omega, hA2, Lib.hid hs0, HR0⟩
  case round =>
    obtain ⟨k, S, rfl, hkk, hB, HS, HR⟩ := hrel
    have HB := Lib.hid hB
    have hszr := hB.size
    clear hB
    by_cases hlt : k < ks.length
    · have hk1 : (k : Int) < (ks.length : Int) := by omega
      obtain ⟨g, o, hg1, hg2, z0⟩ := (HK.out _ HB.out).at k hlt
      have hy := HO.out _ (List.getElem_mem hlt)
      have HD := Lib.hid (fresh_drop (g := id) (l := l) (S := S) hlt)
      generalize ks[k] = y at z0 hy HD
      obtain ⟨q, rfl⟩ : ∃ q : Nat, y = (q : Int) := ⟨y.toNat, by omega⟩
      have hql : q < l.length := by omega
      have hqi : (q : Int) < (l.length : Int) := by omega
      have hq0 : (0 : Int) ≤ (q : Int) := by omega
      have hc := HC.out _ HB.out
      obtain ⟨b, o2, kv2, hb1, hb2, d0, d1, -⟩ := hc.l.at q hql
      have htx : txt l (q : Int) = l[q].text.data.toList := by simp [txt, ndAt, List.getD, hql]
      have hty : l[q].text.size ≤ 140737488355328 := (HOl.out _ (List.getElem_mem hql)).1
      rw [htx] at HD
      generalize l[q].text = s at d1 HD hty
      have e0 := hc.c.cell 0
      have el := hc.c.lt
      simp at e0
      subst hg1 hb1
      obtain ⟨D, hown, hhas⟩ := HS.out
      have hkey := key_str s hty
      have HPut := Lib.hid (set_put hown hhas s hty)
      have hkm : k < 1000000 := by omega
      have hh := hhas s.data.toList
      simp only [id] at HD
      obtain ⟨bb, hbb⟩ : ∃ bb, (S.any fun t => t == s.data.toList) = bb := ⟨_, rfl⟩
      rw [hbb] at hh HD
      clear hc htx hbb hhas d0
      cases bb
      · have HR2 : Hid (freshB id (S ++ [s.data.toList]) (textsOf l (ks.drop (k + 1))) = R) := Lib.hid (by rw [← HR.out, HD.out]; rfl)
        clear HD HR
        go_wp2_with (first
          | (at_lookup; refine wpList_lookup_own_unit _ rfl _ _ 129 rfl 9 _ keyedStr Tryz.underlying129 (by kernel_rfl) (w.heap.size + 1) k D rfl hown _ _ rfl hkey ?_; rw [hh])
          | (at_mapUpdate; refine wpList_mapUpdate_own _ rfl _ _ _ 129 rfl 9 _ keyedStr Tryz.underlying129 (unitElem (H := Unit)) (w.heap.size + 1) k D rfl (hown.alloc _) (by unfold maxLen; omega) _ _ _ rfl rfl hkey _ [] unitElem_mk ?_; intro w9 hown1 hgrow1)
          | go_in)
        go_roundw
        case rel => exact ⟨k + 1, S ++ [s.data.toList], by go_num, by omega, (HB.out.alloc hszr _).grown hgrow1 (by simp; omega) (fun j hj => by cases hj; simp), Lib.hid ⟨_, hown1, HPut.out⟩, HR2⟩
        case measure => simp [intOf]; omega
      · have hRf : R = false := by rw [← HR.out, HD.out]; rfl
        subst hRf
        clear HD HR HPut
        go_wp2_with (first
          | (at_lookup; refine wpList_lookup_own_unit _ rfl _ _ 129 rfl 9 _ keyedStr Tryz.underlying129 (by kernel_rfl) (w.heap.size + 1) k D rfl hown _ _ rfl hkey ?_; rw [hh])
          | (at_mapUpdate; refine wpList_mapUpdate_own _ rfl _ _ _ 129 rfl 9 _ keyedStr Tryz.underlying129 (unitElem (H := Unit)) (w.heap.size + 1) k D rfl (hown.alloc _) (by unfold maxLen; omega) _ _ _ rfl rfl hkey _ [] unitElem_mk ?_; intro w9 hown1 hgrow1)
          | go_in)
        go_ret
        exact ⟨rfl, HB.out.alloc hszr _⟩
    · have hRt : R = true := by
        rw [← HR.out, List.drop_eq_nil_of_le (by omega)]
        rfl
      have hkm : k = ks.length := by omega
      subst hRt hkm
      go_wp2
      go_ret
      exact ⟨rfl, HB.out⟩
end TreeD
end Go.Proofs.YtmdkocegnbcgmaaGreatDoor

namespace Go.Proofs.YtmdkocegnbcgmaaGreatDoor
open Go.RowKit ObjM
namespace TreeD

def bsOf (S : List (List UInt8)) : List Bool := (List.range 8).map fun i => S.any fun s => s == [UInt8.ofNat (48 + i)]
theorem bsOf_len (S : List (List UInt8)) : (bsOf S).length = 8 := by simp [bsOf]
theorem bsOf_get (S : List (List UInt8)) {i : Nat} (hi : i < 8) : (bsOf S)[i]? = some (S.any fun s => s == [UInt8.ofNat (48 + i)]) := by
  unfold bsOf
  rw [List.getElem?_map, List.getElem?_range hi]
  rfl
theorem bsOf_put (S : List (List UInt8)) {i : Nat} (hi : i < 8) : bsOf (S ++ [[UInt8.ofNat (48 + i)]]) = (bsOf S).set i true := by
  apply List.ext_getElem?
  intro j
  by_cases hj : j < 8
  · rw [bsOf_get _ hj, List.getElem?_set]
    by_cases e : i = j
    · subst e
      rw [if_pos rfl, if_pos (by rw [bsOf_len]; exact hj)]
      simp
    · rw [if_neg e]
      have hne : ([UInt8.ofNat (48 + i)] == [UInt8.ofNat (48 + j)]) = false := by
        simp only [beq_eq_false_iff_ne, ne_eq, List.cons.injEq, and_true]
        intro h
        have := congrArg UInt8.toNat h
        rw [UInt8.toNat_ofNat', UInt8.toNat_ofNat'] at this
        omega
      rw [List.any_append, bsOf_get _ hj, List.any_cons, hne]
      simp
  · rw [List.getElem?_eq_none (by rw [bsOf_len]; omega), List.getElem?_eq_none (by rw [List.length_set, bsOf_len]; omega)]
theorem chan_byte {s : ByteArray} (h : chanB s = true) : ∃ i, i < 8 ∧ 0 < s.size ∧ byteAt s 0 = 48 + i ∧ s.data.toList.take 1 = [UInt8.ofNat (48 + i)] := by
  unfold chanB at h
  simp only [Bool.and_eq_true, decide_eq_true_eq] at h
  obtain ⟨h1, h2, h3, -⟩ := h
  have hz : 0 < s.size := by omega
  refine ⟨byteAt s 0 - 48, by omega, hz, by omega, ?_⟩
  have e : 48 + (byteAt s 0 - 48) = byteAt s 0 := by omega
  rw [e, byte0 hz]
  have hl : 0 < s.data.toList.length := hz
  cases hs : s.data.toList with
  | nil => rw [hs] at hl; simp at hl
  | cons c r =>
    have : s[0]'hz = c := by
      have h5 : s.data.toList[0]'hl = c := by simp only [hs, List.getElem_cons_zero]
      exact h5
    rw [this]
    simp
set_option maxRecDepth 100000 in
set_option maxHeartbeats 8000000 in
theorem channels_any (x0 : Int) (x1 : ByteArray) (ks : List Int) (x3 : Int) (kv lv dv : Value) (l : List Nd) (C : Nat) (w : World) (hC : Ck w C lv dv l) (hk : KidsAt w kv ks) (hok : ∀ k ∈ ks, 0 ≤ k ∧ k < (l.length : Int)) (hkl : ks.length < 1000000) (hpos : 0 < ks.length) (hch : ∀ k ∈ ks.dropLast, chanB (ndAt l k).text = true) (hcap : ∀ a n c, kv = .slice a n c → n ≤ c) :
    Calls Tryz.prog 111 #[.pointer (some ⟨C, 0, none⟩), .agg #[.int .i64 x0, .string x1, kv, .int .i64 x3]] w fun e w' => e = .returned (.bool (unlikeB (·.take 1) (textsOf l ks.dropLast))) ∧ Below w.heap.size w w' := by
  obtain ⟨R, hR⟩ : ∃ R, unlikeB (·.take 1) (textsOf l ks.dropLast) = R := ⟨_, rfl⟩
  have HR0 : Hid (freshB (·.take 1) [] (textsOf l (ks.dropLast.drop 0)) = R) := Lib.hid hR
  rw [hR]
  have HO := Lib.hid hok
  have HCh := Lib.hid hch
  have hN := Has.new w 40 [.int .i64 x0, .string x1, kv, .int .i64 x3]
  have HC := Lib.hid (fun (W : World) (h : Below w.heap.size w W) => hC.below h)
  have HK := Lib.hid (fun (W : World) (h : Below w.heap.size w W) => hk.below (Nat.le_refl _) h)
  obtain ⟨av, cv, rfl⟩ := hk.shape
  obtain ⟨al, cl, rfl⟩ := hC.l.shape
  obtain ⟨m, hm⟩ : ∃ m, ks.length = m + 1 := ⟨ks.length - 1, by omega⟩
  have HM := Lib.hid hm
  have hcp : m + 1 ≤ cv := hm ▸ hcap _ _ _ rfl
  have hcp1 : (m : Int) ≤ (cv : Int) := by omega
  have hm0 : (0 : Int) ≤ (m : Int) := by omega
  have hm1 : wrap64 (m : Int) = (m : Int) := NumM.w64_id (by omega) (by omega)
  go_enter Tryz.func111, Tryz.ntmps111
  rw [hm]
  rw [hm] at hkl
  clear hR hok hC hk hch hpos hm hcap
  go_wp2
  change Code.wp _ _ _ _ (World.alloc (w.alloc (.cells #[.int .i64 x0, .string x1, .slice av (m + 1) cv, .int .i64 x3] 40)) (.cells #[.bool false, .bool false, .bool false, .bool false, .bool false, .bool false, .bool false, .bool false] 128))
  have hA2 : Below w.heap.size w (World.alloc (w.alloc (.cells #[.int .i64 x0, .string x1, .slice av (m + 1) cv, .int .i64 x3] 40)) (.cells #[.bool false, .bool false, .bool false, .bool false, .bool false, .bool false, .bool false, .bool false] 128)) := ((Below.refl _ w).alloc (Nat.le_refl _) _).alloc (by simp) _
  have hS0 : Has (World.alloc (w.alloc (.cells #[.int .i64 x0, .string x1, .slice av (m + 1) cv, .int .i64 x3] 40)) (.cells #[.bool false, .bool false, .bool false, .bool false, .bool false, .bool false, .bool false, .bool false] 128)) (w.heap.size + 1) 128 ((bsOf []).map Value.bool) := by
    have := Has.new (w.alloc (.cells #[.int .i64 x0, .string x1, .slice av (m + 1) cv, .int .i64 x3] 40)) 128 [.bool false, .bool false, .bool false, .bool false, .bool false, .bool false, .bool false, .bool false]
    rw [World.size_alloc] at this
    exact this
  clear hN hm1 hcp hcp1 hm0
  generalize (World.alloc (w.alloc (.cells #[.int .i64 x0, .string x1, .slice av (m + 1) cv, .int .i64 x3] 40)) (.cells #[.bool false, .bool false, .bool false, .bool false, .bool false, .bool false, .bool false, .bool false] 128)) = w1 at hA2 hS0 ⊢
  go_loopw [17] (fun i wr => ∃ (k : Nat) (S : List (List UInt8)), i = .int .i64 (k : Int) ∧ k ≤ m ∧ Below w.heap.size w wr ∧ Hid (Has wr (w.heap.size + 1) 128 ((bsOf S).map Value.bool)) ∧ Hid (freshB (·.take 1) S (textsOf l (ks.dropLast.drop k)) = R)) (fun i _ => m - (intOf i).toNat)
  case atStart => exact ⟨0, [], rfl, by omega, hA2, Lib.hid hS0, HR0⟩
  case round =>
    obtain ⟨k, S, rfl, hkk, hB, HS, HR⟩ := hrel
    have HB := Lib.hid hB
    have hszr := hB.size
    clear hB
    by_cases hlt : k < m
    · have hk1 : (k : Int) < (m : Int) := by omega
      have hkl2 : k < ks.length := by have := HM.out; omega
      have hkd : k < ks.dropLast.length := by rw [List.length_dropLast]; have := HM.out; omega
      have hkv := HK.out _ HB.out
      rw [HM.out] at hkv
      obtain ⟨g, o, hg1, hg2, z0⟩ := hkv.at k hkl2
      have hy := HO.out _ (List.getElem_mem hkl2)
      have HD := Lib.hid (fresh_drop (g := (·.take 1)) (l := l) (S := S) hkd)
      have hcb := HCh.out _ (List.getElem_mem hkd)
      have hdl : ks.dropLast[k]'hkd = ks[k]'hkl2 := List.getElem_dropLast hkd
      rw [hdl] at HD hcb
      generalize ks[k]'hkl2 = y at z0 hy HD hcb
      obtain ⟨q, rfl⟩ : ∃ q : Nat, y = (q : Int) := ⟨y.toNat, by omega⟩
      have hql : q < l.length := by omega
      have hqi : (q : Int) < (l.length : Int) := by omega
      have hq0 : (0 : Int) ≤ (q : Int) := by omega
      have hc := HC.out _ HB.out
      obtain ⟨b, o2, kv2, hb1, hb2, d0, d1, -⟩ := hc.l.at q hql
      have htx : txt l (q : Int) = l[q].text.data.toList := by simp [txt, ndAt, List.getD, hql]
      rw [ndAt_q hql] at hcb
      rw [htx] at HD
      generalize l[q].text = s at d1 HD hcb
      obtain ⟨i, hi8, hsz, hbi, htk⟩ := chan_byte hcb
      rw [byte0 hsz] at hbi
      rw [htk] at HD
      have e0 := hc.c.cell 0
      have el := hc.c.lt
      simp at e0
      subst hg1 hb1
      have hs0 : ((s[0]'hsz).toNat : Int) = 48 + (i : Int) := by omega
      have hszi : (0 : Int) < (s.size : Int) := by omega
      have hi0 : (0 : Int) ≤ (i : Int) := by omega
      have hi8i : (i : Int) < 8 := by omega
      have hwr : IntKind.u8.wrap (48 + (i : Int) - 48) = (i : Int) := by simp [IntKind.wrap, IntKind.bits, IntKind.signed]; omega
      have hbc := (HS.out.cell i).trans (show ((bsOf S).map Value.bool)[i]? = some (.bool (S.any fun s => s == [UInt8.ofNat (48 + i)])) by rw [List.getElem?_map, bsOf_get S hi8]; rfl)
      have hbf := HS.out.frozen i
      have hbl := HS.out.lt
      obtain ⟨bb, hbb⟩ : ∃ bb, (S.any fun t => t == [UInt8.ofNat (48 + i)]) = bb := ⟨_, rfl⟩
      rw [hbb] at hbc HD
      clear hc htx hbb d0 hdl hcb htk hkv
      cases bb
      · have HR2 : Hid (freshB (·.take 1) (S ++ [[UInt8.ofNat (48 + i)]]) (textsOf l (ks.dropLast.drop (k + 1))) = R) := Lib.hid (by rw [← HR.out, HD.out]; rfl)
        have HS2 : Hid (Has (wr.setCell ⟨w.heap.size + 1, i, none⟩ (.bool true)) (w.heap.size + 1) 128 ((bsOf (S ++ [[UInt8.ofNat (48 + i)]])).map Value.bool)) := Lib.hid (by
          rw [bsOf_put S hi8, List.map_set]
          exact HS.out.set i (.bool true))
        have HB2 : Hid (Below w.heap.size w (wr.setCell ⟨w.heap.size + 1, i, none⟩ (.bool true))) := Lib.hid (HB.out.setCell (p := ⟨w.heap.size + 1, i, none⟩) (by simp) _)
        clear HD HR
        go_wp2
        go_roundw
        case rel => exact ⟨k + 1, _, by go_num, by omega, HB2.out, HS2, HR2⟩
        case measure => simp [intOf]; omega
      · have hRf : R = false := by rw [← HR.out, HD.out]; rfl
        subst hRf
        clear HD HR
        go_wp2
        go_ret
        exact ⟨rfl, HB.out⟩
    · have hRt : R = true := by
        rw [← HR.out, List.drop_eq_nil_of_le (by rw [List.length_dropLast]; have := HM.out; omega)]
        rfl
      have hkm : k = m := by omega
      subst hRt hkm
      go_wp2
      go_ret
      exact ⟨rfl, HB.out⟩
end TreeD
end Go.Proofs.YtmdkocegnbcgmaaGreatDoor
