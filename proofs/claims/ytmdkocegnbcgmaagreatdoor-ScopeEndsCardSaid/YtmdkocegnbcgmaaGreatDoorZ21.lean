/- How deep nodes are. -/
import Derived.Test.YtmdkocegnbcgmaaGreatDoorZ20
import Derived.OwnWalk
import Derived.Laws.OwnMore
import Derived.StillTailTactics
namespace Go.Proofs.YtmdkocegnbcgmaaGreatDoor
open Go.RowKit ObjM
namespace TreeD

/-- The deepest of the kids that come before. -/
def mostOf (ds : List Int) (n : Nat) (ks : List Int) : Int := ks.foldl (fun m k => if 0 ≤ k ∧ k < (n : Int) then max m (ds.getD k.toNat 0) else m) 0
def depths (l : List Nd) : Nat → List Int
  | 0 => []
  | k + 1 => depths l k ++ [mostOf (depths l k) k (match l[k]? with | some x => x.kids | none => []) + 1]
def deepV (l : List Nd) : Int := (depths l l.length).getLastD 0
theorem depths_len (l : List Nd) : ∀ k, (depths l k).length = k
  | 0 => rfl
  | k + 1 => by simp [depths, depths_len l k]
theorem most_snoc (ds : List Int) (n : Nat) (ks : List Int) (k : Int) : mostOf ds n (ks ++ [k]) = if 0 ≤ k ∧ k < (n : Int) then max (mostOf ds n ks) (ds.getD k.toNat 0) else mostOf ds n ks := by
  unfold mostOf
  rw [List.foldl_append]
  rfl
theorem most_take {ds : List Int} {n : Nat} {ks : List Int} {j : Nat} (hj : j < ks.length) : mostOf ds n (ks.take (j + 1)) = if 0 ≤ ks[j] ∧ ks[j] < (n : Int) then max (mostOf ds n (ks.take j)) (ds.getD ks[j].toNat 0) else mostOf ds n (ks.take j) := by
  rw [List.take_succ_eq_append_getElem hj, most_snoc]
theorem most_bound {ds : List Int} {n : Nat} (h : ∀ x ∈ ds, 0 ≤ x ∧ x ≤ (n : Int)) : ∀ (ks : List Int), 0 ≤ mostOf ds n ks ∧ mostOf ds n ks ≤ (n : Int) := by
  have key : ∀ (ks : List Int) (m : Int), 0 ≤ m ∧ m ≤ (n : Int) → 0 ≤ ks.foldl (fun m k => if 0 ≤ k ∧ k < (n : Int) then max m (ds.getD k.toNat 0) else m) m ∧ ks.foldl (fun m k => if 0 ≤ k ∧ k < (n : Int) then max m (ds.getD k.toNat 0) else m) m ≤ (n : Int) := by
    intro ks
    induction ks with
    | nil => intro m hm; exact hm
    | cons k r ih =>
      intro m hm
      rw [List.foldl_cons]
      apply ih
      split
      · have hd : 0 ≤ ds.getD k.toNat 0 ∧ ds.getD k.toNat 0 ≤ (n : Int) := by
          by_cases hk : k.toNat < ds.length
          · have e : ds.getD k.toNat 0 = ds[k.toNat] := by simp [List.getD, hk]
            rw [e]
            exact h _ (List.getElem_mem hk)
          · have e : ds.getD k.toNat 0 = 0 := by simp [List.getD, hk]
            rw [e]
            omega
        omega
      · exact hm
  intro ks
  exact key ks 0 (by omega)
theorem depths_bound (l : List Nd) : ∀ k, ∀ x ∈ depths l k, 0 ≤ x ∧ x ≤ (k : Int)
  | 0, x, h => by cases h
  | k + 1, x, h => by
    rw [depths, List.mem_append] at h
    rcases h with h | h
    · have := depths_bound l k x h
      omega
    · simp at h
      have := most_bound (depths_bound l k) (match l[k]? with | some x => x.kids | none => [])
      omega
theorem depths_next {l : List Nd} {k : Nat} (hk : k < l.length) : depths l (k + 1) = depths l k ++ [mostOf (depths l k) k l[k].kids + 1] := by
  rw [depths, List.getElem?_eq_getElem hk]
/-- What the memory for depths holds. -/
def dCells (ds : List Int) (m : Nat) : List Value := (ds ++ List.replicate (m - ds.length) 0).map (Value.int .i64)
theorem dCells_zero (m : Nat) : dCells [] m = List.replicate m (.int .i64 0) := by simp [dCells]
theorem dCells_get {ds : List Int} {m i : Nat} (hi : i < m) : (dCells ds m)[i]? = some (.int .i64 (ds.getD i 0)) := by
  unfold dCells
  rw [List.getElem?_map]
  by_cases h : i < ds.length
  · rw [List.getElem?_append_left h, List.getElem?_eq_getElem h]
    simp [List.getD, h]
  · rw [List.getElem?_append_right (by omega), List.getElem?_replicate, if_pos (by omega)]
    simp [List.getD, h]
theorem dCells_set {ds : List Int} {m : Nat} {x : Int} (h : ds.length < m) : (dCells ds m).set ds.length (.int .i64 x) = dCells (ds ++ [x]) m := by
  unfold dCells
  rw [← List.map_set, List.set_append_right _ _ (Nat.le_refl _), Nat.sub_self]
  congr 1
  cases e : m - ds.length with
  | zero => omega
  | succ q =>
    have e2 : m - (ds ++ [x]).length = q := by simp; omega
    rw [e2, List.replicate_succ, List.set_cons_zero]
    simp
theorem infoInt : (Tryz.prog.info? 3).map (fun i => (i.zero, i.size, i.bytes)) = some (some (.int .i64 0), 1, 8) := by kernel_rfl
set_option maxRecDepth 100000 in
set_option maxHeartbeats 8000000 in
theorem deep_any (l : List Nd) (v : Value) (w : World) (hv : NdsAt w v l) (hok : ∀ n ∈ l, NdOk n) (hlen : l.length ≤ 100000) :
    Calls Tryz.prog 63 #[v] w fun e w' => e = .returned (.int .i64 (deepV l)) ∧ Below w.heap.size w w' := by
  obtain ⟨av, cv, rfl⟩ := hv.shape
  obtain ⟨i0, hi, hz0, hz1, hz2⟩ := info_parts infoInt
  have HV := Lib.hid (fun (W : World) (hb : Below w.heap.size w W) => hv.below (Nat.le_refl _) hb)
  have HK := Lib.hid hok
  obtain ⟨m, hm⟩ : ∃ m, l.length = m := ⟨_, rfl⟩
  have HM := Lib.hid hm
  have HE : Hid (deepV l = (depths l m).getLastD 0) := Lib.hid (by unfold deepV; rw [hm])
  rw [hm] at hlen
  go_enter Tryz.func63, Tryz.ntmps63
  rw [hm]
  clear hv hok hm
  go_wp2_with (at_make; refine wpList_make_full _ rfl _ _ 31 rfl w.heap.size 3 i0 (.int .i64 0) 1 Tryz.underlying31 hi hz0 hz1 .i64 .i64 (m : Int) (m : Int) m rfl rfl rfl rfl ?c1 ?c2 ?c3 ?_)
  case c1 => rw [hz2]; omega
  case c2 => unfold maxLen; omega
  case c3 => exact Nat.le_refl _
  intro w1 hrow hgrow
  have HD0 : Hid (Has w1 w.heap.size 3 (dCells [] m)) := Lib.hid (by
    rcases own_shape hrow with ⟨h, _⟩ | ⟨g, cap, cs, h1, h2, h3, h4, h5, h6, h7⟩
    · cases h
    · injection h1 with e1 e2 e3
      injection e1 with e1
      injection e1 with e1
      subst e1 e3
      rw [Nat.mul_one] at h6 h7
      rw [List.take_of_length_le (by omega)] at h7
      rw [dCells_zero]
      have h8 : (madeCells #[Value.int .i64 0] m).toList = List.replicate m (.int .i64 0) := toList_madeCells_one _ _
      have h9 : cs = List.replicate m (.int .i64 0) := h7.trans h8
      rw [← h9]
      exact h3)
  have HB0 : Hid (Below w.heap.size w w1) := Lib.hid ((Below.refl _ w).grown hgrow (Nat.le_refl _) (fun k hk => by cases hk))
  clear hrow hgrow hi hz0 hz1 hz2
  go_wp2
  go_loopw [14, 4] (fun i mo wr => ∃ (k : Nat) (la : Int), i = .int .i64 (k : Int) ∧ mo = .int .i64 la ∧ k ≤ m ∧ Below w.heap.size w wr ∧ Hid (Has wr w.heap.size 3 (dCells (depths l k) m)) ∧ Hid ((depths l k).getLastD 0 = la)) (fun i _ _ => m - (intOf i).toNat)
  case atStart => exact ⟨0, 0, rfl, rfl, by omega, HB0.out, HD0, Lib.hid rfl⟩
  case round =>
    obtain ⟨k, la, rfl, rfl, hk, hB, HD, HLa⟩ := hrel
    have HB := Lib.hid hB
    have hszr := hB.size
    clear hB
    by_cases hlt : k < m
    · have hi1 : (k : Int) < (m : Int) := by omega
      have hkl : k < l.length := by rw [HM.out]; exact hlt
      have HNx := Lib.hid (depths_next hkl)
      obtain ⟨b, o, kv, rfl, hb, c0, c1, c2, c3, c4⟩ := (HV.out _ HB.out).at k hkl
      have hok := HK.out _ (List.getElem_mem hkl)
      generalize l[k] = x at HNx c0 c1 c2 c3 c4 hok
      obtain ⟨x0, x1, x2, x3⟩ := x
      simp only at HNx c0 c1 c2 c3 c4
      obtain ⟨ak, ck, rfl⟩ := c4.shape
      have hx2 : x2.length ≤ 140737488355328 := hok.2.1
      have HXb := Lib.hid hok.2.2
      have HDl := Lib.hid (depths_len l k)
      have HDb := Lib.hid (depths_bound l k)
      obtain ⟨ds, hds⟩ : ∃ ds, depths l k = ds := ⟨_, rfl⟩
      rw [hds] at HD HNx HDl HDb
      have HWb : Hid (Below wr.heap.size wr (wr.alloc (.cells #[.int .i64 x0, .string x1, .slice ak x2.length ck, .int .i64 x3] 40))) := Lib.hid ((Below.refl _ wr).alloc (Nat.le_refl _) _)
      have hN := Has.new wr 40 [.int .i64 x0, .string x1, .slice ak x2.length ck, .int .i64 x3]
      clear hok hkl HLa hds
      go_wp2
      change Code.wp _ _ _ _ (World.alloc wr _)
      have HBn := Lib.hid (HB.out.trans (HWb.out.mono hszr))
      have HDn := Lib.hid (HD.out.below HWb.out HD.out.lt)
      have HKn := Lib.hid (c4.below (Nat.le_refl _) HWb.out)
      generalize World.alloc wr (.cells #[.int .i64 x0, .string x1, .slice ak x2.length ck, .int .i64 x3] 40) = w5 at hN HWb HBn HDn HKn ⊢
      generalize wr.heap.size = N at hN ⊢
      have n2 := hN.cell 2
      have nl := hN.lt
      simp at n2
      clear hN c0 c1 c2 c3 c4 hb HB HD
      go_loopw [22, 4] (fun i mo wr2 => ∃ (j : Nat) (M : Int), i = .int .i64 (j : Int) ∧ mo = .int .i64 M ∧ j ≤ x2.length ∧ 0 ≤ M ∧ M ≤ (k : Int) ∧ Hid (wr2 = w5) ∧ Hid (mostOf ds k (x2.take j) = M)) (fun i _ _ => x2.length - (intOf i).toNat)
      case atStart => exact ⟨0, 0, rfl, rfl, by omega, by omega, by omega, Lib.hid rfl, Lib.hid rfl⟩
      case round =>
        obtain ⟨j, M, rfl, rfl, hj, hM0, hM1, HW2, HMo⟩ := hrel
        obtain rfl := HW2.out
        clear HW2
        by_cases hjl : j < x2.length
        · have hj1 : (j : Int) < (x2.length : Int) := by omega
          obtain ⟨g1, o1, rfl, hg1, z1⟩ := HKn.out.at j hjl
          have hxb := HXb.out _ (List.getElem_mem hjl)
          have HMx := Lib.hid (most_take (ds := ds) (n := k) hjl)
          have HMb := Lib.hid (most_bound (ds := ds) (n := k) HDb.out (x2.take (j + 1)))
          rw [HMo.out] at HMx
          generalize x2[j] = y at z1 hxb HMx
          by_cases hin : 0 ≤ y ∧ y < (k : Int)
          · obtain ⟨q, rfl⟩ : ∃ q : Nat, y = (q : Int) := ⟨y.toNat, by omega⟩
            have hq : q < k := by omega
            have hqm : (q : Int) < (m : Int) := by omega
            have hy0 : (0 : Int) ≤ (q : Int) := by omega
            have hyk : (q : Int) < (k : Int) := by omega
            have dq := (HDn.out.cell q).trans (dCells_get (ds := ds) (m := m) (by omega))
            have dl := HDn.out.lt
            have HM2 : Hid (mostOf ds k (x2.take (j + 1)) = max M (ds.getD q 0)) := Lib.hid (by rw [HMx.out, if_pos hin]; rfl)
            have hmb := HMb.out
            rw [HM2.out] at hmb
            generalize ds.getD q 0 = dv at dq HM2 hmb
            clear HMx HMb hin
            go_wp2
            go_roundw
            case rel => exact ⟨j + 1, max M dv, by go_num, rfl, by omega, hmb.1, hmb.2, (by first | exact Lib.hid rfl | exact Lib.hid trivial), HM2⟩
            case measure => simp [intOf]; omega
          · have HM2 : Hid (mostOf ds k (x2.take (j + 1)) = M) := Lib.hid (by rw [HMx.out, if_neg hin])
            have hin2 : ¬ (0 ≤ y) ∨ (0 ≤ y ∧ ¬ y < (k : Int)) := by omega
            clear HMx HMb hin
            rcases hin2 with hy | ⟨hy, hy2⟩
            all_goals
              go_wp2
              go_roundw
              case rel => exact ⟨j + 1, M, by go_num, rfl, by omega, hM0, hM1, (by first | exact Lib.hid rfl | exact Lib.hid trivial), HM2⟩
              case measure => simp [intOf]; omega
        · have hjx : j = x2.length := by omega
          have HMf : Hid (mostOf ds k x2 = M) := Lib.hid (by have := HMo.out; rwa [hjx, List.take_length] at this)
          have HN2 : Hid (depths l (k + 1) = ds ++ [M + 1]) := Lib.hid (by rw [HNx.out, HMf.out])
          have df := HDn.out.frozen k
          have dl := HDn.out.lt
          have dk := (HDn.out.cell k).trans (dCells_get (ds := ds) (m := m) hlt)
          have HDf : Hid (Has (wr.setCell ⟨w.heap.size, k, none⟩ (.int .i64 (M + 1))) w.heap.size 3 (dCells (depths l (k + 1)) m)) := Lib.hid (by
            have h1 := HDn.out.set k (.int .i64 (M + 1))
            have h2 : (dCells ds m).set k (.int .i64 (M + 1)) = dCells (ds ++ [M + 1]) m := by
              have := dCells_set (ds := ds) (m := m) (x := M + 1) (by rw [HDl.out]; exact hlt)
              rwa [HDl.out] at this
            rw [h2] at h1
            rw [HN2.out]
            exact h1)
          have HBf : Hid (Below w.heap.size w (wr.setCell ⟨w.heap.size, k, none⟩ (.int .i64 (M + 1)))) := Lib.hid (HBn.out.setCell (p := ⟨w.heap.size, k, none⟩) (Nat.le_refl _) _)
          have HLf : Hid ((depths l (k + 1)).getLastD 0 = M + 1) := Lib.hid (by rw [HN2.out]; simp)
          generalize ds.getD k 0 = dv at dk
          subst hjx
          clear HMf HMo HNx HN2
          go_wp2
          go_roundw
          case rel => exact ⟨k + 1, M + 1, by go_num, by go_num, by omega, HBf.out, HDf, HLf⟩
          case measure => simp [intOf]; omega
    · have hkm : k = m := by omega
      subst hkm
      have HF : Hid (deepV l = la) := Lib.hid (by rw [HE.out, HLa.out])
      go_wp2
      go_ret
      rw [HF.out]
      exact ⟨rfl, HB.out⟩
end TreeD
end Go.Proofs.YtmdkocegnbcgmaaGreatDoor
namespace Go.Proofs.YtmdkocegnbcgmaaGreatDoor
open Go.RowKit ObjM
namespace TreeD

theorem deep_last {l : List Nd} {m : Nat} (hm : l.length = m) : deepV l = (depths l m).getD (m - 1) 0 := by
  have hl := depths_len l m
  unfold deepV
  rw [hm, List.getLastD_eq_getLast?, List.getLast?_eq_getElem?, hl]
  rfl
theorem deep_none {l : List Nd} (hm : l.length = 0) : deepV l = 0 := by
  unfold deepV
  rw [hm]
  rfl
set_option maxRecDepth 100000 in
set_option maxHeartbeats 8000000 in
theorem refDeep_any (l : List Nd) (v : Value) (w : World) (hv : NdsAt w v l) (hok : ∀ n ∈ l, NdOk n) (hlen : l.length ≤ 100000) :
    Calls Tryz.prog 27 #[v] w fun e w' => e = .returned (.int .i64 (deepV l)) ∧ Below w.heap.size w w' := by
  obtain ⟨av, cv, rfl⟩ := hv.shape
  obtain ⟨i0, hi, hz0, hz1, hz2⟩ := info_parts infoInt
  have HV := Lib.hid hv
  have HK := Lib.hid hok
  obtain ⟨m, hm⟩ : ∃ m, l.length = m := ⟨_, rfl⟩
  have HM := Lib.hid hm
  rw [hm] at hlen
  go_enter Tryz.func27, Tryz.ntmps27
  rw [hm]
  clear hv hok hm
  go_wp2_with (at_make; refine wpList_make_full _ rfl _ _ 31 rfl w.heap.size 3 i0 (.int .i64 0) 1 Tryz.underlying31 hi hz0 hz1 .i64 .i64 (m : Int) (m : Int) m rfl rfl rfl rfl ?c1 ?c2 ?c3 ?_)
  case c1 => rw [hz2]; omega
  case c2 => unfold maxLen; omega
  case c3 => exact Nat.le_refl _
  intro w1 hrow hgrow
  have HD0 : Hid (Has w1 w.heap.size 3 (dCells [] m)) := Lib.hid (by
    rcases own_shape hrow with ⟨h, _⟩ | ⟨g, cap, cs, h1, h2, h3, h4, h5, h6, h7⟩
    · cases h
    · injection h1 with e1 e2 e3
      injection e1 with e1
      injection e1 with e1
      subst e1 e3
      rw [Nat.mul_one] at h6 h7
      rw [List.take_of_length_le (by omega)] at h7
      rw [dCells_zero]
      have h8 : (madeCells #[Value.int .i64 0] m).toList = List.replicate m (.int .i64 0) := toList_madeCells_one _ _
      have h9 : cs = List.replicate m (.int .i64 0) := h7.trans h8
      rw [← h9]
      exact h3)
  have HB0 : Hid (Below w.heap.size w w1) := Lib.hid ((Below.refl _ w).grown hgrow (Nat.le_refl _) (fun k hk => by cases hk))
  clear hrow hgrow hi hz0 hz1 hz2
  go_wp2
  go_loopw [13] (fun i wr => ∃ k : Nat, i = .int .i64 (k : Int) ∧ k ≤ m ∧ Below w.heap.size w wr ∧ Hid (Has wr w.heap.size 3 (dCells (depths l k) m))) (fun i _ => m - (intOf i).toNat)
  case atStart => exact ⟨0, rfl, by omega, HB0.out, HD0⟩
  case round =>
    obtain ⟨k, rfl, hk, hB, HD⟩ := hrel
    have HB := Lib.hid hB
    have hszr := hB.size
    clear hB
    by_cases hlt : k < m
    · have hi1 : (k : Int) < (m : Int) := by omega
      have hkl : k < l.length := by rw [HM.out]; exact hlt
      have HNx := Lib.hid (depths_next hkl)
      obtain ⟨b, o, kv, rfl, hb0, C0, C1, C2, C3, C4⟩ := HV.out.at k hkl
      have hok := HK.out _ (List.getElem_mem hkl)
      generalize l[k] = x at HNx C0 C1 C2 C3 C4 hok
      obtain ⟨x0, x1, x2, x3⟩ := x
      simp only at HNx C0 C1 C2 C3 C4
      obtain ⟨ak, ck, rfl⟩ := C4.shape
      have c0 := (HB.out.cell (p := ⟨b, _, none⟩) hb0).trans C0
      have c1 := (HB.out.cell (p := ⟨b, _, none⟩) hb0).trans C1
      have c2 := (HB.out.cell (p := ⟨b, _, none⟩) hb0).trans C2
      have c3 := (HB.out.cell (p := ⟨b, _, none⟩) hb0).trans C3
      have hb : b < wr.heap.size := by omega
      have hx2 : x2.length ≤ 140737488355328 := hok.2.1
      have HDl := Lib.hid (depths_len l k)
      have HDb := Lib.hid (depths_bound l k)
      obtain ⟨ds, hds⟩ : ∃ ds, depths l k = ds := ⟨_, rfl⟩
      rw [hds] at HD HNx HDl HDb
      have HKn := Lib.hid C4
      have HWb : Hid (Below wr.heap.size wr (wr.alloc (.cells #[.int .i64 x0, .string x1, .slice ak x2.length ck, .int .i64 x3] 40))) := Lib.hid ((Below.refl _ wr).alloc (Nat.le_refl _) _)
      have hN := Has.new wr 40 [.int .i64 x0, .string x1, .slice ak x2.length ck, .int .i64 x3]
      have HDn := Lib.hid (HD.out.below HWb.out HD.out.lt)
      have df := HDn.out.frozen k
      have dl := HDn.out.lt
      have dk := (HDn.out.cell k).trans (dCells_get (ds := ds) (m := m) hlt)
      have hne : w.heap.size ≠ wr.heap.size := Nat.ne_of_lt HD.out.lt
      have HD1 : Hid (Has ((wr.alloc (.cells #[.int .i64 x0, .string x1, .slice ak x2.length ck, .int .i64 x3] 40)).setCell ⟨w.heap.size, k, none⟩ (.int .i64 1)) w.heap.size 3 (dCells (ds ++ [1]) m)) := Lib.hid (by
        have h1 := HDn.out.set k (.int .i64 1)
        have h2 := dCells_set (ds := ds) (m := m) (x := 1) (by rw [HDl.out]; exact hlt)
        rw [HDl.out] at h2
        rw [h2] at h1
        exact h1)
      have HB1 : Hid (Below w.heap.size w ((wr.alloc (.cells #[.int .i64 x0, .string x1, .slice ak x2.length ck, .int .i64 x3] 40)).setCell ⟨w.heap.size, k, none⟩ (.int .i64 1))) := Lib.hid ((HB.out.trans (HWb.out.mono hszr)).setCell (p := ⟨w.heap.size, k, none⟩) (Nat.le_refl _) _)
      have hN1 := hN.keeps (Keeps.set _ w.heap.size k (.int .i64 1)) (by simpa using hne.symm)
      generalize ds.getD k 0 = dv0 at dk
      clear hok hkl hds C0 C1 C2 C3 C4
      have n2 := hN1.cell 2
      have nl := hN1.lt
      simp at n2
      go_wp2
      change Code.wp _ _ _ _ (World.setCell _ _ _)
      generalize World.setCell (World.alloc wr (.cells #[.int .i64 x0, .string x1, .slice ak x2.length ck, .int .i64 x3] 40)) ⟨w.heap.size, k, none⟩ (.int .i64 1) = w5 at hN1 HD1 HB1 n2 nl ⊢
      clear HWb HDn hN hN1 df dl dk c0 c1 c2 c3
      go_loopw [24] (fun i wr2 => ∃ (j : Nat) (M : Int), i = .int .i64 (j : Int) ∧ j ≤ x2.length ∧ 0 ≤ M ∧ M ≤ (k : Int) ∧ Below w.heap.size w wr2 ∧ Hid (Has wr2 w.heap.size 3 (dCells (ds ++ [M + 1]) m)) ∧ Hid (mostOf ds k (x2.take j) = M)) (fun i _ => x2.length - (intOf i).toNat)
      case atStart => exact ⟨0, 0, rfl, by omega, by omega, by omega, HB1.out, HD1, Lib.hid rfl⟩
      case round =>
        obtain ⟨j, M, rfl, hj, hM0, hM1, hBj, HDj, HMo⟩ := hrel
        have HBj := Lib.hid hBj
        clear hBj
        by_cases hjl : j < x2.length
        · have hj1 : (j : Int) < (x2.length : Int) := by omega
          obtain ⟨g1, o1, rfl, hg1, z1⟩ := (HKn.out.below (Nat.le_refl _) HBj.out).at j hjl
          have HMx := Lib.hid (most_take (ds := ds) (n := k) hjl)
          have HMb := Lib.hid (most_bound (ds := ds) (n := k) HDb.out (x2.take (j + 1)))
          rw [HMo.out] at HMx
          generalize x2[j] = y at z1 HMx
          by_cases hin : 0 ≤ y ∧ y < (k : Int)
          · obtain ⟨q, rfl⟩ : ∃ q : Nat, y = (q : Int) := ⟨y.toNat, by omega⟩
            have hq : q < k := by omega
            have hqm : (q : Int) < (m : Int) := by omega
            have hy0 : (0 : Int) ≤ (q : Int) := by omega
            have hyk : (q : Int) < (k : Int) := by omega
            have dq := (HDj.out.cell q).trans (dCells_get (ds := ds ++ [M + 1]) (m := m) (by omega))
            have dk := (HDj.out.cell k).trans (dCells_get (ds := ds ++ [M + 1]) (m := m) hlt)
            have df := HDj.out.frozen k
            have dl := HDj.out.lt
            have hgq : (ds ++ [M + 1]).getD q 0 = ds.getD q 0 := by
              have h1 : q < ds.length := by rw [HDl.out]; exact hq
              simp [List.getD, List.getElem?_append_left h1]
            have hgk : (ds ++ [M + 1]).getD k 0 = M + 1 := by
              have h1 : ds.length = k := HDl.out
              simp [List.getD, ← h1]
            rw [hgq] at dq
            rw [hgk] at dk
            have HM2 : Hid (mostOf ds k (x2.take (j + 1)) = max M (ds.getD q 0)) := Lib.hid (by rw [HMx.out, if_pos hin]; rfl)
            have hmb := HMb.out
            rw [HM2.out] at hmb
            have hdb : 0 ≤ ds.getD q 0 ∧ ds.getD q 0 ≤ (k : Int) := by
              have h1 : q < ds.length := by rw [HDl.out]; exact hq
              have e : ds.getD q 0 = ds[q] := by simp [List.getD, h1]
              rw [e]
              exact HDb.out _ (List.getElem_mem h1)
            generalize ds.getD q 0 = dv at dq HM2 hmb hdb
            have hw1 : IntKind.i64.wrap (dv + 1) = dv + 1 := by rw [IntKind.wrap_i64]; omega
            have hmx : max (M + 1) (dv + 1) = max M dv + 1 := by omega
            have HDf : Hid (Has (wr.setCell ⟨w.heap.size, k, none⟩ (.int .i64 (max M dv + 1))) w.heap.size 3 (dCells (ds ++ [max M dv + 1]) m)) := Lib.hid (by
              have h1 := HDj.out.set k (.int .i64 (max M dv + 1))
              have h2 : (dCells (ds ++ [M + 1]) m).set k (.int .i64 (max M dv + 1)) = dCells (ds ++ [max M dv + 1]) m := by
                have h3 := dCells_set (ds := ds) (m := m) (x := M + 1) (by rw [HDl.out]; exact hlt)
                have h4 := dCells_set (ds := ds) (m := m) (x := max M dv + 1) (by rw [HDl.out]; exact hlt)
                rw [HDl.out] at h3 h4
                rw [← h3, List.set_set, h4]
              rw [h2] at h1
              exact h1)
            clear HMx HMb hin hgq hgk
            have HBf : Hid (Below w.heap.size w (wr.setCell ⟨w.heap.size, k, none⟩ (.int .i64 (max M dv + 1)))) := Lib.hid (HBj.out.setCell (p := ⟨w.heap.size, k, none⟩) (Nat.le_refl _) _)
            go_wp2
            go_still_tail 13, (by kernel_rfl)
            change wpList _ _ _ _ _ wr.drew
            go_wp2
            go_roundw
            case rel => exact ⟨j + 1, max M dv, by go_num, by omega, hmb.1, hmb.2, HBf.out.drew, Lib.hid (HDf.out.keeps (Keeps.drewN [] _ 1) (by simp)), HM2⟩
            case measure => simp [intOf]; omega
          · have HM2 : Hid (mostOf ds k (x2.take (j + 1)) = M) := Lib.hid (by rw [HMx.out, if_neg hin])
            have hin2 : ¬ (0 ≤ y) ∨ (0 ≤ y ∧ ¬ y < (k : Int)) := by omega
            clear HMx HMb hin
            rcases hin2 with hy | ⟨hy, hy2⟩
            all_goals
              go_wp2
              go_roundw
              case rel => exact ⟨j + 1, M, by go_num, by omega, hM0, hM1, HBj.out, HDj, HM2⟩
              case measure => simp [intOf]; omega
        · have hjx : j = x2.length := by omega
          have HMf : Hid (mostOf ds k x2 = M) := Lib.hid (by have := HMo.out; rwa [hjx, List.take_length] at this)
          have HDf : Hid (Has wr w.heap.size 3 (dCells (depths l (k + 1)) m)) := Lib.hid (by rw [HNx.out, HMf.out]; exact HDj.out)
          subst hjx
          clear HMf HMo HNx
          go_wp2
          go_roundw
          case rel => exact ⟨k + 1, by go_num, by omega, HBj.out, HDf⟩
          case measure => simp [intOf]; omega
    · have hkm : k = m := by omega
      subst hkm
      by_cases h0 : k = 0
      · subst h0
        have HF : Hid (deepV l = 0) := Lib.hid (deep_none HM.out)
        go_wp2
        go_ret
        rw [HF.out]
        exact ⟨rfl, HB.out⟩
      · have HF : Hid (deepV l = (depths l k).getD (k - 1) 0) := Lib.hid (deep_last HM.out)
        have dq := (HD.out.cell (k - 1)).trans (dCells_get (ds := depths l k) (m := k) (by omega))
        have dl := HD.out.lt
        rw [← HF.out] at dq
        have h0b : ((k : Int) == 0) = false := by simp; omega
        obtain ⟨p, rfl⟩ : ∃ p, k = p + 1 := ⟨k - 1, by omega⟩
        simp only [Nat.add_sub_cancel] at dq
        clear HF
        go_wp2
        go_ret
        exact ⟨rfl, HB.out⟩
end TreeD
end Go.Proofs.YtmdkocegnbcgmaaGreatDoor
