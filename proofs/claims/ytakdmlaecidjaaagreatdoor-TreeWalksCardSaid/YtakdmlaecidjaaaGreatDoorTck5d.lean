/- What neither kinds nor texts tell, part by part: the program's. -/
import Derived.Test.YtakdmlaecidjaaaGreatDoorTck2
import Derived.BigQuiet
import Derived.WalkSmall
import Derived.StillTailTactics
import Derived.Deep.RegionHeld3
namespace Go.Proofs.YtakdmlaecidjaaaGreatDoor
open Go.RowKit ObjM
namespace TreeD

/-- The nodes that are looked at. -/
structure Ck (w : World) (C : Nat) (lv dv : Value) (l : List Nd) : Prop where
  c : Has w C 51 [lv, dv]
  l : NdsAt w lv l
theorem Ck.below {w w' : World} {C : Nat} {lv dv : Value} {l : List Nd} (h : Ck w C lv dv l) (hb : Below w.heap.size w w') : Ck w' C lv dv l := ⟨h.c.below hb h.c.lt, h.l.below (Nat.le_refl _) hb⟩
theorem last_take {l : List Nd} {ks : List Int} {k : Nat} (hk : k + 1 < ks.length) : lastB l (ks.drop k) = (!(decide (kindAt l ks[k] = 10) || decide (kindAt l ks[k] = 11)) && lastB l (ks.drop (k + 1))) := by
  unfold lastB kindsOf
  rw [List.drop_eq_getElem_cons (show k < ks.length by omega), List.dropLast_cons_of_ne_nil]
  · simp
  · intro e
    have := congrArg List.length e
    simp at this
    omega
theorem last_end {l : List Nd} {ks : List Int} {k : Nat} (hk : ks.length ≤ k + 1) : lastB l (ks.drop k) = true := by
  have h : (ks.drop k).dropLast = [] := by
    apply List.eq_nil_of_length_eq_zero
    simp
    omega
  unfold lastB kindsOf
  rw [h]
  rfl
set_option maxRecDepth 100000 in
set_option maxHeartbeats 8000000 in
theorem last_any (x0 : Int) (x1 : ByteArray) (ks : List Int) (x3 : Int) (kv lv dv : Value) (l : List Nd) (C : Nat) (w : World) (hC : Ck w C lv dv l) (hk : KidsAt w kv ks) (hok : ∀ k ∈ ks, 0 ≤ k ∧ k < (l.length : Int)) (hkl : ks.length ≤ 140737488355328) (_hll : l.length ≤ 100000) :
    Calls Tryz.prog 54 #[.pointer (some ⟨C, 0, none⟩), .agg #[.int .i64 x0, .string x1, kv, .int .i64 x3]] w fun e w' => e = .returned (.bool (lastB l ks)) ∧ Below w.heap.size w w' := by
  obtain ⟨R, hR⟩ : ∃ R, lastB l ks = R := ⟨_, rfl⟩
  have HR0 : Hid (lastB l (ks.drop 0) = R) := Lib.hid hR
  rw [hR]
  have HO := Lib.hid hok
  have hA : Below w.heap.size w (w.alloc (.cells #[.int .i64 x0, .string x1, kv, .int .i64 x3] 35)) := (Below.refl _ w).alloc (Nat.le_refl _) _
  have hN := Has.new w 35 [.int .i64 x0, .string x1, kv, .int .i64 x3]
  have hC2 := hC.below hA
  have hk2 := hk.below (Nat.le_refl _) hA
  have HA : Hid (Below w.heap.size w (w.alloc (.cells #[.int .i64 x0, .string x1, kv, .int .i64 x3] 35))) := Lib.hid hA
  obtain ⟨av, cv, rfl⟩ := hk.shape
  obtain ⟨al, cl, rfl⟩ := hC.l.shape
  clear hR hok hA hC hk
  go_enter Tryz.func54, Tryz.ntmps54
  go_wp2
  change Code.wp _ _ _ _ (World.alloc w _)
  generalize World.alloc w (.cells #[.int .i64 x0, .string x1, .slice av ks.length cv, .int .i64 x3] 35) = w1 at hN hC2 hk2 HA ⊢
  generalize hNe : w.heap.size = N at hN ⊢
  have n2 := hN.cell 2
  have nl := hN.lt
  have e0 := hC2.c.cell 0
  have el := hC2.c.lt
  simp at n2 e0
  have HK := Lib.hid hk2
  have HL := Lib.hid hC2.l
  clear hN hk2 hC2
  go_wp2
  go_loopw [11] (fun i wr => ∃ k : Nat, i = .int .i64 (k : Int) ∧ k ≤ ks.length ∧ Hid (wr = w1) ∧ Hid (lastB l (ks.drop k) = R)) (fun i _ => ks.length - (intOf i).toNat)
  case atStart => exact ⟨0, rfl, by omega, Lib.hid rfl, HR0⟩
  case round =>
    obtain ⟨k, rfl, hkk, HW, HR⟩ := hrel
    obtain rfl := HW.out
    clear HW
    by_cases hlt : k < ks.length
    · have hk1 : (k : Int) < (ks.length : Int) := by omega
      obtain ⟨g, o, hg1, hg2, z0⟩ := HK.out.at k hlt
      have hy := HO.out _ (List.getElem_mem hlt)
      have HS : Hid (k + 1 < ks.length → lastB l (ks.drop k) = (!(decide (kindAt l ks[k] = 10) || decide (kindAt l ks[k] = 11)) && lastB l (ks.drop (k + 1)))) := Lib.hid fun h => last_take h
      generalize ks[k] = y at z0 hy HS
      obtain ⟨q, rfl⟩ : ∃ q : Nat, y = (q : Int) := ⟨y.toNat, by omega⟩
      have hql : q < l.length := by omega
      have hqi : (q : Int) < (l.length : Int) := by omega
      have hq0 : (0 : Int) ≤ (q : Int) := by omega
      obtain ⟨b, o2, kv2, hb1, hb2, d0, -⟩ := HL.out.at q hql
      have hka : kindAt l (q : Int) = l[q].kind := by simp [kindAt, ndAt, List.getD, hql]
      rw [hka] at HS
      generalize l[q].kind = kd at d0 HS
      subst hg1 hb1
      by_cases hend : k + 1 < ks.length
      · have HS2 := Lib.hid (HS.out hend)
        have hend1 : (k : Int) < (ks.length : Int) - 1 := by omega
        by_cases h10 : kd = 10
        · subst h10
          have hRf : R = false := by rw [← HR.out, HS2.out]; rfl
          subst hRf
          clear HS HS2 hka
          go_wp2
          go_ret
          exact ⟨rfl, hNe ▸ HA.out⟩
        · by_cases h11 : kd = 11
          · subst h11
            have hRf : R = false := by rw [← HR.out, HS2.out]; rfl
            subst hRf
            clear HS HS2 hka
            go_wp2
            go_ret
            exact ⟨rfl, hNe ▸ HA.out⟩
          · have HR2 : Hid (lastB l (ks.drop (k + 1)) = R) := Lib.hid (by rw [← HR.out, HS2.out]; simp [h10, h11])
            clear HS HS2 hka HR
            go_wp2
            go_roundw
            case rel => exact ⟨k + 1, by go_num, by omega, (by first | exact Lib.hid rfl | exact Lib.hid trivial), HR2⟩
            case measure => simp [intOf]; omega
      · have hend1 : ¬ (k : Int) < (ks.length : Int) - 1 := by omega
        have HR2 : Hid (lastB l (ks.drop (k + 1)) = R) := Lib.hid (by rw [← HR.out, last_end (by omega), last_end (by omega)])
        clear HS hka HR
        by_cases h10 : kd = 10
        · subst h10
          go_wp2
          go_roundw
          case rel => exact ⟨k + 1, by go_num, by omega, (by first | exact Lib.hid rfl | exact Lib.hid trivial), HR2⟩
          case measure => simp [intOf]; omega
        · by_cases h11 : kd = 11
          · subst h11
            go_wp2
            go_roundw
            case rel => exact ⟨k + 1, by go_num, by omega, (by first | exact Lib.hid rfl | exact Lib.hid trivial), HR2⟩
            case measure => simp [intOf]; omega
          · go_wp2
            go_roundw
            case rel => exact ⟨k + 1, by go_num, by omega, (by first | exact Lib.hid rfl | exact Lib.hid trivial), HR2⟩
            case measure => simp [intOf]; omega
    · have hRt : R = true := by rw [← HR.out, last_end (by omega)]
      have hkm : k = ks.length := by omega
      subst hRt hkm
      go_wp2
      go_ret
      exact ⟨rfl, hNe ▸ HA.out⟩
end TreeD
end Go.Proofs.YtakdmlaecidjaaaGreatDoor

namespace Go.Proofs.YtakdmlaecidjaaaGreatDoor
open Go.RowKit ObjM
namespace TreeD

theorem kindAt_q {l : List Nd} {q : Nat} (hq : q < l.length) : kindAt l (q : Int) = l[q].kind := by simp [kindAt, ndAt, List.getD, hq]
theorem ndAt_q {l : List Nd} {q : Nat} (hq : q < l.length) : ndAt l (q : Int) = l[q] := by simp [ndAt, List.getD, hq]
theorem Good.fit {l : List Nd} {i : Nat} {x : Nd} (h : Good l i x) : fitB (WANT.getD x.kind.toNat []) (kindsOf l x.kids) = true := by
  have := h.own
  unfold ownB at this
  simp only [Bool.and_eq_true] at this
  exact this.2.2.2.1
theorem Good.text {l : List Nd} {i : Nat} {x : Nd} (h : Good l i x) : textB x = true := by
  have := h.own
  unfold ownB at this
  simp only [Bool.and_eq_true] at this
  exact this.2.2.2.2.1
theorem down_kid {l : List Nd} {i : Nat} {x : Nd} (h : Good l i x) (hk : x.kind = 18 ∨ x.kind = 19 ∨ x.kind = 20) : ∃ k r, x.kids = k :: r := by
  have hf := h.fit
  cases hx : x.kids with
  | cons k r => exact ⟨k, r, rfl⟩
  | nil =>
    rw [hx] at hf
    rcases hk with hk | hk | hk
    all_goals
      rw [hk] at hf
      exact absurd (show fitB _ [] = true from hf) (by decide)
theorem root_step {l : List Nd} {f : Nat} {q : Nat} (hq : q < l.length) (hk : l[q].kind = 18 ∨ l[q].kind = 19 ∨ l[q].kind = 20) {k : Int} {r : List Int} (hx : l[q].kids = k :: r) : rootV l (f + 1) (q : Int) = rootV l f k := by
  show (if kindAt l (q : Int) = 18 ∨ kindAt l (q : Int) = 19 ∨ kindAt l (q : Int) = 20 then rootV l f ((ndAt l (q : Int)).kids.getD 0 0) else _) = _
  rw [kindAt_q hq, if_pos hk, ndAt_q hq, hx]
  rfl
theorem root_end {l : List Nd} {f : Nat} {q : Nat} (hq : q < l.length) (hk : ¬ (l[q].kind = 18 ∨ l[q].kind = 19 ∨ l[q].kind = 20)) : rootV l f (q : Int) = l[q].kind := by
  cases f with
  | zero => exact kindAt_q hq
  | succ f =>
    show (if kindAt l (q : Int) = 18 ∨ kindAt l (q : Int) = 19 ∨ kindAt l (q : Int) = 20 then _ else _) = _
    rw [kindAt_q hq, if_neg hk]
set_option maxRecDepth 100000 in
set_option maxHeartbeats 8000000 in
theorem base_any (lv dv : Value) (l : List Nd) (C n q : Nat) (w : World) (hC : Ck w C lv dv l) (hD : Done l n) (hq : q < n) (hn : n ≤ l.length) (hok : ∀ n ∈ l, NdOk n) :
    Calls Tryz.prog 55 #[.pointer (some ⟨C, 0, none⟩), .int .i64 (q : Int)] w fun e w' => e = .returned (.bool (baseB l (q : Int))) ∧ w = w' := by
  obtain ⟨R, hR⟩ : ∃ R, rootV l q (q : Int) = R := ⟨_, rfl⟩
  have hbr : baseB l (q : Int) = (decide (R = 17) || decide (R = 21)) := by
    unfold baseB
    simp only [Int.toNat_natCast, hR]
  rw [hbr]
  have HD := Lib.hid hD
  have HO := Lib.hid hok
  obtain ⟨al, cl, rfl⟩ := hC.l.shape
  have e0 := hC.c.cell 0
  have el := hC.c.lt
  have HL := Lib.hid hC.l
  have HR0 := Lib.hid hR
  simp at e0
  clear hR hbr hD hok hC
  go_enter Tryz.func55, Tryz.ntmps55
  go_wp2
  go_loopw [1] (fun i wr => ∃ k f : Nat, i = .int .i64 (k : Int) ∧ k < n ∧ k ≤ f ∧ Hid (wr = w) ∧ Hid (rootV l f (k : Int) = R)) (fun i _ => (intOf i).toNat)
  case atStart => exact ⟨q, q, rfl, hq, by omega, Lib.hid rfl, HR0⟩
  case round =>
    obtain ⟨k, f, rfl, hk, hkf, HW, HR⟩ := hrel
    obtain rfl := HW.out
    clear HW HR0
    have hkl : k < l.length := by omega
    have hki : (k : Int) < (l.length : Int) := by omega
    have hk0 : (0 : Int) ≤ (k : Int) := by omega
    obtain ⟨b, o2, kv2, hb1, hb2, d0, d1, d2, d3, d4⟩ := HL.out.at k hkl
    have hg := HD.out k l[k] hk (List.getElem?_eq_getElem hkl)
    by_cases hkind : l[k].kind = 18 ∨ l[k].kind = 19 ∨ l[k].kind = 20
    · obtain ⟨y, r, hx⟩ := down_kid hg hkind
      have hy := hg.kids y (by rw [hx]; simp)
      obtain ⟨f2, rfl⟩ : ∃ f2, f = f2 + 1 := ⟨f - 1, by omega⟩
      have HR2 : Hid (rootV l f2 y = R) := Lib.hid (by rw [← HR.out, root_step hkl hkind hx])
      rw [hx] at d4
      obtain ⟨av, cap, rfl⟩ := d4.shape
      obtain ⟨g, o, rfl, hg2, z0⟩ := d4.at 0 (by simp)
      obtain ⟨p, rfl⟩ : ∃ p : Nat, y = (p : Int) := ⟨y.toNat, by omega⟩
      have hlen : (0 : Int) < ((((p : Int) :: r).length : Nat) : Int) := by simp only [List.length_cons]; omega
      subst hb1
      obtain ⟨kd, hkd⟩ : ∃ kd, l[k].kind = kd := ⟨_, rfl⟩
      rw [hkd] at d0 hkind
      simp only [List.getElem_cons_zero, Nat.add_zero] at z0
      have hpk : p < k := by omega
      obtain ⟨m, hm⟩ : ∃ m, ((p : Int) :: r).length = m := ⟨_, rfl⟩
      rw [hm] at d2 hlen
      clear hg hx hkd d1 d3 d4 HR hy
      rcases hkind with rfl | rfl | rfl
      all_goals
        go_wp2
        go_roundw
        case rel => exact ⟨p, f2, rfl, by omega, by omega, (by first | exact Lib.hid rfl | exact Lib.hid trivial), HR2⟩
        case measure => simp [intOf]; omega
    · have hRe : R = l[k].kind := by rw [← HR.out, root_end hkl hkind]
      subst hb1
      obtain ⟨kd, hkd⟩ : ∃ kd, l[k].kind = kd := ⟨_, rfl⟩
      rw [hkd] at d0 hkind hRe
      subst hRe
      clear hg hkd d1 d2 d3 d4 HR
      have g1 : ¬ R = 18 := fun e => hkind (.inl e)
      have g2 : ¬ R = 19 := fun e => hkind (.inr (.inl e))
      have g3 : ¬ R = 20 := fun e => hkind (.inr (.inr e))
      by_cases h17 : R = 17
      · subst h17
        go_wp2
        go_ret
        exact ⟨rfl, rfl⟩
      · by_cases h21 : R = 21
        · subst h21
          go_wp2
          go_ret
          exact ⟨rfl, rfl⟩
        · go_wp2
          go_ret
          exact ⟨by simp [h17, h21], rfl⟩
theorem arg_len {l : List Nd} {x : Nd} (h : (x.kids.length : Int) ≠ builtinV x.text) : argsB l x = false := by
  unfold argsB
  rw [decide_eq_false h]
  rfl
theorem arg_other {l : List Nd} {x : Nd} (h : (x.kids.length : Int) = builtinV x.text) (h1 : ¬ x.text = READ) (h2 : ¬ x.text = WRITE) : argsB l x = true := by
  unfold argsB
  rw [decide_eq_true h, if_neg]
  · rfl
  · rw [memB_iff]
    simp [h1, h2]
theorem arg_first {l : List Nd} {x : Nd} (h : (x.kids.length : Int) = builtinV x.text) (h1 : x.text = READ ∨ x.text = WRITE) : argsB l x = firstB l (x.kids.getD 0 0) := by
  unfold argsB
  rw [decide_eq_true h, if_pos]
  · rfl
  · rw [memB_iff]
    simpa using h1
theorem byte0 {s : ByteArray} (h : 0 < s.size) : byteAt s 0 = (s[0]'h).toNat := by
  unfold byteAt
  have h2 : 0 < s.data.toList.length := h
  rw [List.getD_eq_getElem?_getD, List.getElem?_eq_getElem h2]
  rfl
set_option maxRecDepth 100000 in
set_option maxHeartbeats 8000000 in
theorem args_any (x : Nd) (kv lv dv : Value) (l : List Nd) (C : Nat) (w : World) (hC : Ck w C lv dv l) (hk : KidsAt w kv x.kids) (hok : ∀ k ∈ x.kids, 0 ≤ k ∧ k < (l.length : Int)) (hkl : x.kids.length ≤ 140737488355328) (hokl : ∀ n ∈ l, NdOk n) :
    Calls Tryz.prog 56 #[.pointer (some ⟨C, 0, none⟩), .agg #[.int .i64 x.kind, .string x.text, kv, .int .i64 x.pos]] w fun e w' => e = .returned (.bool (argsB l x)) ∧ Below w.heap.size w w' := by
  have H1 := @arg_len l x
  have H2 := @arg_other l x
  have H3 := @arg_first l x
  obtain ⟨R, hR⟩ : ∃ R, argsB l x = R := ⟨_, rfl⟩
  rw [hR] at H1 H2 H3 ⊢
  obtain ⟨x0, x1, ks, x3⟩ := x
  simp only at *
  have HBu := fun W => Lib.hid (builtin_any x1 W)
  have hA : Below w.heap.size w (w.alloc (.cells #[.int .i64 x0, .string x1, kv, .int .i64 x3] 35)) := (Below.refl _ w).alloc (Nat.le_refl _) _
  have HA : Hid (Below w.heap.size w (w.alloc (.cells #[.int .i64 x0, .string x1, kv, .int .i64 x3] 35))) := Lib.hid hA
  have hN := Has.new w 35 [.int .i64 x0, .string x1, kv, .int .i64 x3]
  have hC2 := hC.below hA
  have hk2 := hk.below (Nat.le_refl _) hA
  obtain ⟨av, cv, rfl⟩ := hk.shape
  obtain ⟨al, cl, rfl⟩ := hC.l.shape
  clear hR hA hC hk
  obtain ⟨bv, hbv⟩ : ∃ bv, builtinV x1 = bv := ⟨_, rfl⟩
  rw [hbv] at HBu H1 H2 H3
  have hbv2 : bv ≤ 2 := by
    rw [← hbv]
    unfold builtinV
    split <;> (try split) <;> omega
  have hbv0 := hbv
  clear hbv
  go_enter Tryz.func56, Tryz.ntmps56
  go_wp2
  change Code.wp _ _ _ _ (World.alloc w _)
  generalize World.alloc w (.cells #[.int .i64 x0, .string x1, .slice av ks.length cv, .int .i64 x3] 35) = w1 at hN hC2 hk2 HA ⊢
  generalize hNe : w.heap.size = N at hN ⊢
  have n1 := hN.cell 1
  have n2 := hN.cell 2
  have nl := hN.lt
  have e0 := hC2.c.cell 0
  have el := hC2.c.lt
  simp at n1 n2 e0
  have HK := Lib.hid hk2
  have HL := Lib.hid hC2.l
  clear hN hk2 hC2
  go_quiet ((go_at_call 15; exact quiet_left ((HBu _).out)))
  have HA2 : Hid (Below w.heap.size w (w1.drewN nq)) := Lib.hid ⟨HA.out.os, HA.out.tape, HA.out.output, HA.out.size, fun k hk => HA.out.block k hk⟩
  have HK2 : Hid (KidsAt (w1.drewN nq) (.slice av ks.length cv) ks) := HK
  have HL2 : Hid (NdsAt (w1.drewN nq) (.slice al l.length cl) l) := HL
  have n1 : (w1.drewN nq).cell? ⟨N, 1, none⟩ = some (.string x1) := n1
  have n2 : (w1.drewN nq).cell? ⟨N, 2, none⟩ = some (.slice av ks.length cv) := n2
  have nl : N < (w1.drewN nq).heap.size := nl
  have e0 : (w1.drewN nq).cell? ⟨C, 0, none⟩ = some (.slice al l.length cl) := e0
  have el : C < (w1.drewN nq).heap.size := el
  generalize w1.drewN nq = w2 at HA2 HK2 HL2 n1 n2 nl e0 el ⊢
  clear HA HK HL
  by_cases hlen : (ks.length : Int) = bv
  · have hne : ((ks.length : Int) != bv) = false := by simp [hlen]
    by_cases hrw : x1 = READ ∨ x1 = WRITE
    · have hRf := H3 hlen hrw
      have hpos : 0 < ks.length := by
        have : bv = 1 ∨ bv = 2 := by
          rw [← hbv0]
          rcases hrw with rfl | rfl
          · exact .inl (by decide)
          · exact .inr (by decide)
        omega
      obtain ⟨g, o, rfl, hg2, z0⟩ := HK2.out.at 0 hpos
      have hy := hok _ (List.getElem_mem hpos)
      have hgd : ks.getD 0 0 = ks[0] := by simp [List.getD, hpos]
      rw [hgd] at hRf
      generalize ks[0] = y at z0 hy hRf
      obtain ⟨q, rfl⟩ : ∃ q : Nat, y = (q : Int) := ⟨y.toNat, by omega⟩
      have hql : q < l.length := by omega
      have hqi : (q : Int) < (l.length : Int) := by omega
      have hq0 : (0 : Int) ≤ (q : Int) := by omega
      have hpi : (0 : Int) < (ks.length : Int) := by omega
      obtain ⟨b, o2, kv2, rfl, hb2, d0, d1, d2, d3, d4⟩ := HL2.out.at q hql
      obtain ⟨av2, cap2, rfl⟩ := d4.shape
      generalize l[q].kids.length = nk2 at d2
      clear d4
      have hfb : firstB l (q : Int) = (decide (l[q].kind = 15) && (decide (l[q].text.size = 1) && decide (byteAt l[q].text 0 ≤ 55))) := by
        unfold firstB
        rw [kindAt_q hql, ndAt_q hql]
      rw [hfb] at hRf
      have hok2 := hokl _ (List.getElem_mem hql)
      generalize l[q] = y at d0 d1 d2 d3 hRf hok2
      obtain ⟨y0, y1, y2, y3⟩ := y
      simp only at d0 d1 d2 d3 hRf
      have hty : y1.size ≤ 140737488355328 := hok2.1
      simp only [Nat.add_zero] at z0
      clear H1 H2 H3 hok HBu hbv2 hbv0 hfb hok2 HK2 HL2
      have HBe : Hid (Below w.heap.size w ((w2.alloc (.cells #[.int .i64 y0, .string y1, .slice av2 nk2 cap2, .int .i64 y3] 35)).drew)) := Lib.hid ((HA2.out.alloc HA2.out.size _).drew)
      obtain ⟨m, hm⟩ : ∃ m, ks.length = m := ⟨_, rfl⟩
      rw [hm] at hpi hne n2 hlen ⊢
      have hpn : 0 < m := by omega
      clear hm hkl hgd hlen
      by_cases h15 : y0 = 15
      · subst h15
        by_cases hsz : y1.size = 1
        · have hszi : (y1.size : Int) = 1 := by omega
          have hzl : 0 < y1.size := by omega
          rw [byte0 hzl, decide_eq_true hsz] at hRf
          simp only [decide_true, Bool.true_and] at hRf
          have hci : decide ((y1[0]'hzl).toNat ≤ 55) = decide (((y1[0]'hzl).toNat : Int) ≤ 55) := by rw [decide_eq_decide]; omega
          rw [hci] at hRf
          clear hci
          subst hRf
          clear hsz
          rcases hrw with rfl | rfl
          all_goals
            simp only [READ, WRITE] at n1 ⊢
            go_wp2
            go_region_held3 (fun W => W.cell? ⟨C, 0, none⟩ = some (.slice (some ⟨b, o2, none⟩) l.length cl) ∧ W.cell? ⟨N, 2, none⟩ = some (.slice (some ⟨g, o, none⟩) m cv) ∧ W.cell? ⟨g, o, none⟩ = some (.int .i64 (q : Int)) ∧ W.cell? ⟨b, o2 + q * 4, none⟩ = some (.int .i64 15) ∧ W.cell? ⟨b, o2 + q * 4 + 1, none⟩ = some (.string y1) ∧ W.cell? ⟨b, o2 + q * 4 + 2, none⟩ = some (.slice av2 nk2 cap2) ∧ W.cell? ⟨b, o2 + q * 4 + 3, none⟩ = some (.int .i64 y3)) (go_keep) (fail)
            go_wp2
            go_ret
            exact ⟨rfl, HBe.out⟩
        · have hszi : ¬ (y1.size : Int) = 1 := by omega
          rw [decide_eq_false hsz] at hRf
          simp only [Bool.false_and, Bool.and_false] at hRf
          subst hRf
          clear hsz
          rcases hrw with rfl | rfl
          all_goals
            simp only [READ, WRITE] at n1 ⊢
            go_wp2
            go_region_held3 (fun W => W.cell? ⟨C, 0, none⟩ = some (.slice (some ⟨b, o2, none⟩) l.length cl) ∧ W.cell? ⟨N, 2, none⟩ = some (.slice (some ⟨g, o, none⟩) m cv) ∧ W.cell? ⟨g, o, none⟩ = some (.int .i64 (q : Int)) ∧ W.cell? ⟨b, o2 + q * 4, none⟩ = some (.int .i64 15) ∧ W.cell? ⟨b, o2 + q * 4 + 1, none⟩ = some (.string y1) ∧ W.cell? ⟨b, o2 + q * 4 + 2, none⟩ = some (.slice av2 nk2 cap2) ∧ W.cell? ⟨b, o2 + q * 4 + 3, none⟩ = some (.int .i64 y3)) (go_keep) (fail)
            go_wp2
            go_ret
            exact ⟨rfl, HBe.out⟩
      · rw [decide_eq_false h15] at hRf
        simp only [Bool.false_and] at hRf
        subst hRf
        rcases hrw with rfl | rfl
        all_goals
          simp only [READ, WRITE] at n1 ⊢
          go_wp2
          go_region_held3 (fun W => W.cell? ⟨C, 0, none⟩ = some (.slice (some ⟨b, o2, none⟩) l.length cl) ∧ W.cell? ⟨N, 2, none⟩ = some (.slice (some ⟨g, o, none⟩) m cv) ∧ W.cell? ⟨g, o, none⟩ = some (.int .i64 (q : Int)) ∧ W.cell? ⟨b, o2 + q * 4, none⟩ = some (.int .i64 y0) ∧ W.cell? ⟨b, o2 + q * 4 + 1, none⟩ = some (.string y1) ∧ W.cell? ⟨b, o2 + q * 4 + 2, none⟩ = some (.slice av2 nk2 cap2) ∧ W.cell? ⟨b, o2 + q * 4 + 3, none⟩ = some (.int .i64 y3)) (go_keep) (fail)
          go_wp2
          go_ret
          exact ⟨rfl, HBe.out⟩
    · have hRf := H2 hlen (fun e => hrw (.inl e)) (fun e => hrw (.inr e))
      subst hRf
      have g1 := ne_list (l := [114, 101, 97, 100]) (s := x1) (fun e => hrw (.inl e))
      have g2 := ne_list (l := [119, 114, 105, 116, 101]) (s := x1) (fun e => hrw (.inr e))
      clear H1 H2 H3
      go_wp2
      go_ret
      exact ⟨rfl, HA2.out⟩
  · have hne : ((ks.length : Int) != bv) = true := by simp [hlen]
    have hRf := H1 hlen
    subst hRf
    clear H1 H2 H3
    go_wp2
    go_ret
    exact ⟨rfl, HA2.out⟩
end TreeD
end Go.Proofs.YtakdmlaecidjaaaGreatDoor
