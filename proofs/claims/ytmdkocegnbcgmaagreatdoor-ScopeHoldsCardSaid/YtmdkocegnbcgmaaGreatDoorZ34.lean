/- The finder's use: what it reads and writes. -/
import Derived.Test.YtmdkocegnbcgmaaGreatDoorZ33
import Derived.BigQuiet
import Derived.StillTailTactics
import Derived.LoopTactic
namespace Go.Proofs.YtmdkocegnbcgmaaGreatDoor
open Go.RowKit ObjM Go.Maps
namespace ScD
open TreeD (Nd NdsAt)
open ParD (Row addrP info_partsP infoIntP)

theorem findP_snoc (k : ByteArray) (f : Sees) : ∀ fs : List Sees, findP k (fs ++ [f]) = match f k.data.toList with | some v => some v | none => findP k fs
  | [] => by
    simp only [List.nil_append, findP]
    cases f k.data.toList <;> rfl
  | g :: fs => by
    rw [List.cons_append, findP, findP_snoc k f fs, findP]
    cases f k.data.toList <;> rfl
theorem FAt.look {w0 W : World} {G : Nat} {lv : Value} {l : List Nd} {st : FSt} {j : Nat} {f : Sees} (h : FAt w0 W G lv l st) (hj : st.blocks[j]? = some f) (s : ByteArray) (hs : s.size ≤ 140737488355328) :
    ∃ g k m, W.cell? ⟨G, 5, none⟩ = some (.slice (some ⟨g, 0, none⟩) st.blocks.length k) ∧ W.cell? ⟨g, j, none⟩ = some (.map (some m)) ∧ g < W.heap.size ∧ G < W.heap.size ∧
      ∀ q, (Instr.lookup 102 (.map (some m)) (.string s) true).run Tryz.prog (W.drewN q) = .ok (.tuple #[.int .i64 (((f s.data.toList).getD 0 : Nat) : Int), .bool (f s.data.toList).isSome]) (W.drewN q) := by
  obtain ⟨vv, v0, v1, v2, v3, bv, ms, ho⟩ := h.ob
  have hjl := (List.getElem?_eq_some_iff.1 hj).1
  have hml := ho.mlen
  obtain ⟨m, hm⟩ : ∃ m, ms[j]? = some m := ⟨_, List.getElem?_eq_getElem (by omega)⟩
  obtain ⟨hBm, hMap⟩ := ho.maps j m f hm hj
  rcases own_shape ho.row with ⟨-, e, -⟩ | ⟨g, cap, cs, rfl, hB, hh, hnc, hcm, hcl, htk⟩
  · omega
  have hrc : W.cell? ⟨g, j, none⟩ = some (.map (some m)) := by
    have := own_cell ho.row j (by simp; omega)
    rw [this, List.getElem_map]
    rw [List.getElem?_eq_getElem (by omega)] at hm
    injection hm with hm
    rw [hm]
  exact ⟨g, cap, m, by rw [ho.obj.cell 5, ← hml]; rfl, hrc, hh.lt, ho.obj.lt, fun q => (show MapIs (W.drewN q) m st.puts f from hMap.block rfl).look s hs⟩
theorem rowVr_get {vs : List (Int × Int × Bool)} {v : Nat} {r : Int × Int × Bool} (h : vs[v]? = some r) : (rowVr vs)[v * 4 + 1]? = some (.int .i64 r.2.1) ∧ (rowVr vs)[v * 4 + 2]? = some (.bool r.2.2) := by
  induction vs generalizing v with
  | nil => simp at h
  | cons a t ih =>
    have e : rowVr (a :: t) = [.int .i64 a.1, .int .i64 a.2.1, .bool a.2.2, .bool false] ++ rowVr t := rfl
    rw [e]
    cases v with
    | zero =>
      simp at h
      subst h
      exact ⟨rfl, rfl⟩
    | succ v =>
      obtain ⟨h1, h2⟩ := ih (v := v) (by simpa using h)
      rw [List.getElem?_append_right (by simp; omega), List.getElem?_append_right (by simp; omega)]
      have e1 : (v + 1) * 4 + 1 - [Value.int .i64 a.1, .int .i64 a.2.1, .bool a.2.2, .bool false].length = v * 4 + 1 := by simp; omega
      have e2 : (v + 1) * 4 + 2 - [Value.int .i64 a.1, .int .i64 a.2.1, .bool a.2.2, .bool false].length = v * 4 + 2 := by simp; omega
      rw [e1, e2]
      exact ⟨h1, h2⟩
theorem rowVr_set {vs : List (Int × Int × Bool)} {v : Nat} {r : Int × Int × Bool} (h : vs[v]? = some r) (b : Bool) : rowVr (vs.set v (r.1, r.2.1, b)) = (rowVr vs).set (v * 4 + 2) (.bool b) := by
  induction vs generalizing v with
  | nil => simp at h
  | cons a t ih =>
    have e : rowVr (a :: t) = [.int .i64 a.1, .int .i64 a.2.1, .bool a.2.2, .bool false] ++ rowVr t := rfl
    cases v with
    | zero =>
      simp at h
      subst h
      rfl
    | succ v =>
      rw [List.set_cons_succ, e]
      have e3 : rowVr (a :: t.set v (r.1, r.2.1, b)) = [.int .i64 a.1, .int .i64 a.2.1, .bool a.2.2, .bool false] ++ rowVr (t.set v (r.1, r.2.1, b)) := rfl
      rw [e3, ih (by simpa using h), List.set_append_right _ _ (by simp; omega)]
      have e2 : (v + 1) * 4 + 2 - [Value.int .i64 a.1, .int .i64 a.2.1, .bool a.2.2, .bool false].length = v * 4 + 2 := by simp; omega
      rw [e2]
theorem FAt.taken {w0 W : World} {G v : Nat} {lv : Value} {l : List Nd} {st : FSt} {r : Int × Int × Bool} (h : FAt w0 W G lv l st) (hv : st.vars[v]? = some r) :
    ∃ g c, W.cell? ⟨G, 1, none⟩ = some (.slice (some ⟨g, 0, none⟩) st.vars.length c) ∧ W.cell? ⟨G, 6, none⟩ = some (.int .i64 (st.fn : Int)) ∧ W.cell? ⟨g, v * 4 + 1, none⟩ = some (.int .i64 r.2.1) ∧ W.cell? ⟨g, v * 4 + 2, none⟩ = some (.bool r.2.2) ∧ W.frozen? ⟨g, v * 4 + 2, none⟩ = false ∧ g < W.heap.size ∧ G < W.heap.size ∧ g ≠ G ∧ (v : Int) < (st.vars.length : Int) ∧
      ∀ b, FAt w0 (W.setCell ⟨g, v * 4 + 2, none⟩ (.bool b)) G lv l { st with vars := st.vars.set v (r.1, r.2.1, b) } ∧ Fs w0 W (W.setCell ⟨g, v * 4 + 2, none⟩ (.bool b)) := by
  obtain ⟨vv, v0, v1, v2, v3, bv, ms, ho⟩ := h.ob
  have hvl := (List.getElem?_eq_some_iff.1 hv).1
  rcases own_shape ho.vars with ⟨-, e, -⟩ | ⟨g, cap, cs, rfl, hB, hh, hnc, hcm, hcl, htk⟩
  · omega
  obtain ⟨g1, g2⟩ := rowVr_get hv
  have hcell : ∀ j u, (rowVr st.vars)[j]? = some u → W.cell? ⟨g, j, none⟩ = some u := fun j u hu => by
    have hl := (List.getElem?_eq_some_iff.1 hu).1
    rw [own_cell ho.vars j hl]
    rw [List.getElem?_eq_getElem hl] at hu
    exact hu
  refine ⟨g, cap, ho.obj.cell 1, ho.obj.cell 6, hcell _ _ g1, hcell _ _ g2, hh.frozen _, hh.lt, ho.obj.lt, fun e => hh.ne ho.obj (by decide +kernel) e, by omega, fun b => ?_⟩
  have k : KeepsT [38] W (W.setCell ⟨g, v * 4 + 2, none⟩ (.bool b)) := (KeepsT.refl _ W).set hh (.inl (by simp)) _ _
  obtain ⟨f1, f2⟩ := fs_set (i := v * 4 + 2) (v := .bool b) h.bel hB hh (by simp)
  refine ⟨⟨h.nds, f2, h.low, .slice (some ⟨g, 0, none⟩) st.vars.length cap, v0, v1, v2, v3, bv, ms, ?_⟩, f1⟩
  refine ⟨ho.obj.keepsT k (by decide +kernel), ?_, ho.r0.keepsT k (by decide +kernel), ho.r1.keepsT k (by decide +kernel), ho.r2.keepsT k (by decide +kernel), ho.r3.keepsT k (by decide +kernel), ho.d01, ho.d02, ho.d03, ho.d12, ho.d13, ho.d23, own_keepsT ho.row k (by decide +kernel), ho.mlen, fun i m f hi hf => ?_, ho.nd⟩
  · show World.ownsRow _ _ _ _ _ (st.vars.set v (r.1, r.2.1, b)).length (rowVr (st.vars.set v (r.1, r.2.1, b)))
    rw [List.length_set, rowVr_set hv]
    refine own_of hB (hh.set _ _) hnc hcm (by rw [List.length_set]; exact hcl) ?_
    rw [← htk, List.take_set]
  · obtain ⟨q1, q2⟩ := ho.maps i m f hi hf
    refine ⟨q1, q2.block (k.block m q2.lt (fun cs t fr hc _ => ?_))⟩
    obtain ⟨n9, D, _, ⟨es, cl, hb9, _⟩, _⟩ := q2
    rw [hb9] at hc
    cases hc
end ScD
end Go.Proofs.YtmdkocegnbcgmaaGreatDoor
namespace Go.Proofs.YtmdkocegnbcgmaaGreatDoor
open Go.RowKit ObjM Go.Maps RoundM
namespace ScD
open TreeD (Nd NdsAt)
open ParD (Row addrP info_partsP infoIntP)

theorem use_some {l : List Nd} {n : Nat} {st st' : FSt} (h : useP l n st = some st') : ∃ x v r, l[n]? = some x ∧ findP x.text st.blocks = some v ∧ st.vars[v]? = some r ∧ n < st.uses.length ∧ st.blocks.length ≤ 2000 ∧ st.vars.length ≤ 1000 ∧
    st' = { st with uses := st.uses.set n (v : Int), vars := st.vars.set v (r.1, r.2.1, r.2.2 || r.2.1 != (st.fn : Int)) } := by
  unfold useP at h
  split at h
  · rename_i x h1
    split at h
    · rename_i v h2
      split at h
      · rename_i r h3
        split at h
        · rename_i h4
          injection h with h
          exact ⟨x, v, r, h1, h2, h3, h4.1, h4.2.1, h4.2.2, h.symm⟩
        · cases h
      · cases h
    · cases h
  · cases h
set_option maxRecDepth 100000 in
set_option maxHeartbeats 16000000 in
theorem use_any (w0 W : World) (G : Nat) (lv : Value) (l : List Nd) (st st' : FSt) (n : Nat) (h : FAt w0 W G lv l st) (hok : ∀ x ∈ l, x.text.size ≤ 140737488355328) (hM : useP l n st = some st') :
    Calls Tryz.prog 69 #[.pointer (some ⟨G, 0, none⟩), .int .i64 (n : Int)] W (Did w0 W G lv l st') := by
  obtain ⟨x, v, r, h1, h2, h3, h4, h5, h6, rfl⟩ := use_some hM
  obtain ⟨vars, uses, funcs, ups, counts, blocks, fn, puts⟩ := st
  simp only at h2 h3 h4 h5 h6
  have HS := Lib.hid h
  have hxs := hok x (List.mem_of_getElem? h1)
  obtain ⟨m, hm⟩ : ∃ m, blocks.length = m + 1 := by
    cases blocks with
    | nil => cases h2
    | cons a t => exact ⟨t.length, rfl⟩
  obtain ⟨g, k, m6, e5, -, eg, eG, -⟩ := h.look (j := m) (List.getElem?_eq_getElem (show m < blocks.length by omega)) x.text hxs
  simp only at e5
  rw [hm] at e5
  have hw1 : IntKind.i64.wrap ((m : Int) + 1 - 1) = (m : Int) := by rw [show (m : Int) + 1 - 1 = m by omega]; exact IntWalk.i64_in _ (by omega)
  have hw2 : IntKind.i64.wrap (m : Int) = (m : Int) := IntWalk.i64_in _ (by omega)
  have HFd : Hid (findP x.text (blocks.take (m + 1)) = some v) := Lib.hid (by rw [List.take_of_length_le (by omega)]; exact h2)
  have HM := Lib.hid hm
  have hm9 : m ≤ 2000 := by omega
  have h1k := h1
  clear h hM h2 hm h5
  go_enter Tryz.func69, Tryz.ntmps69
  go_wp2
  go_loopw [4] (fun s4 wl => ∃ (j q : Nat), s4 = .int .i64 (j : Int) ∧ j ≤ m ∧ wl = W.drewN q ∧ Hid (findP x.text (blocks.take (j + 1)) = some v)) (fun s4 _ => (intOf s4).toNat)
  case atStart => exact ⟨m, 0, rfl, Nat.le_refl _, rfl, HFd⟩
  case round =>
    obtain ⟨j, q, rfl, hj, rfl, HFj⟩ := hrel
    clear HFd e5 eg eG hw1 hw2
    have hjb : j < blocks.length := by have := HM.out; omega
    obtain ⟨g, k, m6, e5, ec, eg, eG, el⟩ := HS.out.look (j := j) (List.getElem?_eq_getElem hjb) x.text hxs
    simp only at e5
    rw [HM.out] at e5
    obtain ⟨lb, lo, kv, lc, e0, -, ebl, ebG, enl, ek, et, -⟩ := nds_at HS.out h1
    have hge : (0 : Int) ≤ (j : Int) := by omega
    have hn0 : (0 : Int) ≤ (n : Int) := by omega
    have hjm : (j : Int) < (m : Int) + 1 := by omega
    obtain ⟨f, hf⟩ : ∃ f, blocks[j]'hjb = f := ⟨_, rfl⟩
    rw [hf] at el
    have htk : blocks.take (j + 1) = blocks.take j ++ [f] := by rw [List.take_succ_eq_append_getElem hjb, hf]
    have HFs : Hid ((match f x.text.data.toList with | some v => some v | none => findP x.text (blocks.take j)) = some v) := Lib.hid (by have h9 := HFj.out; rw [htk, findP_snoc] at h9; exact h9)
    clear hf htk HFj
    cases hfx : f x.text.data.toList with
    | some v' =>
      rw [hfx] at el HFs
      have hvv : v' = v := by have := HFs.out; simpa using this
      subst hvv
      simp only [Option.getD_some, Option.isSome_some] at el
      obtain ⟨g5, m5, k5, va, vc, u5, d2, d1, dc, df, dgl, dGl, dgG, dn, dW⟩ := HS.out.useSet (n := n) h4
      have HU : Hid (∀ q, FAt w0 ((W.drewN q).setCell ⟨g5, n, none⟩ (.int .i64 (v' : Int))) G lv l ⟨vars, uses.set n (v' : Int), funcs, ups, counts, blocks, fn, puts⟩ ∧ Fs w0 W ((W.drewN q).setCell ⟨g5, n, none⟩ (.int .i64 (v' : Int)))) := Lib.hid fun q => by
        obtain ⟨y1, y2⟩ := dW (v' : Int)
        exact ⟨y1.drewN q, y2.drewN q⟩
      clear dW
      go_wp2
      go_quiet (fail)
      go_wp2
      trace_state
      have HU2 := Lib.hid (HU.out (q + nq))
      generalize (W.drewN (q + nq)).setCell ⟨g5, n, none⟩ (.int .i64 (v' : Int)) = W2 at HU2 ⊢
      clear HU d2 d1 dc df dgl dGl dgG dn el e5 ec eg eG e0 ek et ebl ebG enl hge hjm hjb
      obtain ⟨g7, k7, z1, z6, zf, zt, zz, zgl, zGl, zgG, zv, zW⟩ := HU2.out.1.taken h3
      simp only at z1 z6 zv
      obtain ⟨a, b9, tk⟩ := r
      simp only at zf zt zW
      have hv0 : (0 : Int) ≤ (v' : Int) := by omega
      obtain ⟨bb, hbb⟩ : ∃ bb, (b9 != (fn : Int)) = bb := ⟨_, rfl⟩
      have HV : Hid (∀ b, b = (tk || bb) → FAt w0 (W2.setCell ⟨g7, v' * 4 + 2, none⟩ (.bool b)).drew G lv l ⟨vars.set v' (a, b9, tk || b9 != (fn : Int)), uses.set n (v' : Int), funcs, ups, counts, blocks, fn, puts⟩ ∧ Fs w0 W (W2.setCell ⟨g7, v' * 4 + 2, none⟩ (.bool b)).drew) := Lib.hid (by
        rintro b rfl
        obtain ⟨y1, y2⟩ := zW (tk || bb)
        rw [hbb]
        exact ⟨y1.drew, (HU2.out.2.trans y2).drew⟩)
      clear zW HU2
      rw [hbb] at HV
      have HBB := Lib.hid hbb
      cases tk
      all_goals
        simp only [Bool.false_or, Bool.true_or] at HV
        go_region
        all_goals
          go_wp2
          refine bodyPost_ret (v := .tuple #[]) (by simp [results, Tryz.results69, go_sem]) rfl ?_
          obtain ⟨y1, y2⟩ := HV.out _ rfl
          exact ⟨rfl, by first | exact y1 | simpa [HBB.out] using y1, y2⟩
    | none =>
      rw [hfx] at el HFs
      simp only [Option.getD_none, Option.isSome_none] at el
      have HN : Hid (findP x.text (blocks.take j) = some v) := Lib.hid HFs.out
      obtain ⟨i, rfl⟩ : ∃ i, j = i + 1 := by
        cases j with
        | zero => have := HN.out; simp [findP] at this
        | succ i => exact ⟨i, rfl⟩
      have hw : IntKind.i64.wrap (((i + 1 : Nat) : Int) - 1) = (i : Int) := by rw [show ((i + 1 : Nat) : Int) - 1 = i by omega]; exact IntWalk.i64_in _ (by omega)
      go_wp2
      go_quiet (fail)
      go_wp2
      exact ⟨⟨i, q + nq, rfl, by omega, rfl, HN⟩, by simp [intOf]⟩
end ScD
end Go.Proofs.YtmdkocegnbcgmaaGreatDoor
namespace Go.Proofs.YtmdkocegnbcgmaaGreatDoor
open Go.RowKit ObjM Go.Maps RoundM
namespace ScD
open TreeD (Nd NdsAt KidsAt)
open ParD (Row addrP info_partsP infoIntP)

def DoesV (w0 : World) (lv : Value) (l : List Nd) (V : Nat → FSt → Option FSt) : Prop :=
  ∀ (W : World) (G : Nat) (st st' : FSt) (n : Nat), FAt w0 W G lv l st → V n st = some st' → Calls Tryz.prog 37 #[.pointer (some ⟨G, 0, none⟩), .int .i64 (n : Int)] W (Did w0 W G lv l st')
theorem kidsP_cons {V : Nat → FSt → Option FSt} {k : Int} {ks : List Int} {st st' : FSt} (h : kidsP V (k :: ks) st = some st') : ∃ (n : Nat) (s : FSt), k = (n : Int) ∧ V n st = some s ∧ kidsP V ks s = some st' := by
  simp only [kidsP] at h
  split at h
  · rename_i h1
    rw [Option.bind_eq_some_iff] at h
    obtain ⟨s, hs, h⟩ := h
    exact ⟨k.toNat, s, by omega, hs, h⟩
  · cases h
set_option maxRecDepth 100000 in
set_option maxHeartbeats 8000000 in
theorem kids_any (w0 W : World) (G : Nat) (lv kv : Value) (l : List Nd) (V : Nat → FSt → Option FSt) (hV : DoesV w0 lv l V) (st st' : FSt) (kd pos : Int) (tx : ByteArray) (ks : List Int) (h : FAt w0 W G lv l st) (hk : KidsAt w0 kv ks) (hkl : ks.length ≤ 1000000) (hM : kidsP V ks st = some st') :
    Calls Tryz.prog 66 #[.pointer (some ⟨G, 0, none⟩), .agg #[.int .i64 kd, .string tx, kv, .int .i64 pos]] W (Did w0 W G lv l st') := by
  obtain ⟨av, cap, rfl⟩ := hk.shape
  have HV := Lib.hid hV
  have HK := Lib.hid hk
  have HM := Lib.hid hM
  have HX : Hid (FAt w0 (W.alloc (.cells #[.int .i64 kd, .string tx, .slice av ks.length cap, .int .i64 pos] 40)) G lv l st ∧ Fs w0 W (W.alloc (.cells #[.int .i64 kd, .string tx, .slice av ks.length cap, .int .i64 pos] 40))) := Lib.hid ⟨h.alloc _, Fs.below ((Below.refl _ _).alloc (Nat.le_refl _) _) h.bel.size⟩
  obtain ⟨m, hm⟩ : ∃ m, ks.length = m := ⟨_, rfl⟩
  have HL := Lib.hid hm
  have hm9 : m ≤ 1000000 := by omega
  rw [hm] at HX HK ⊢
  clear h hM hk hV hkl hm
  go_enter Tryz.func66, Tryz.ntmps66
  go_wp2_with fail
  generalize W.alloc (.cells #[.int .i64 kd, .string tx, .slice av m cap, .int .i64 pos] 40) = W2 at HX ⊢
  go_loopw [9] (fun i wl => ∃ (k : Nat) (stc : FSt), i = .int .i64 (k : Int) ∧ k ≤ m ∧ Hid (kidsP V (ks.drop k) stc = some st') ∧ Hid (FAt w0 wl G lv l stc ∧ Fs w0 W wl)) (fun i _ => m - (intOf i).toNat)
  case atStart => exact ⟨0, st, rfl, Nat.zero_le _, Lib.hid (by rw [List.drop_zero]; exact HM.out), HX⟩
  case round =>
    obtain ⟨k, stc, rfl, hk, HMc, HP⟩ := hrel
    clear HX HM
    by_cases hlt : k < m
    · have hi1 : (k : Int) < (m : Int) := by omega
      have hi0 : (0 : Int) ≤ (k : Int) := by omega
      have hkl : k < ks.length := by rw [HL.out]; exact hlt
      obtain ⟨g, o, hav, hg, hcell⟩ := (show KidsAt w0 (.slice av m cap) ks from HK.out).at k hkl
      subst hav
      have hd : ks.drop k = ks[k] :: ks.drop (k + 1) := List.drop_eq_getElem_cons hkl
      obtain ⟨n, s, hn, hs, hr⟩ := kidsP_cons (by rw [← hd]; exact HMc.out)
      rw [hn] at hcell
      have xc : wr.cell? ⟨g, o + k, none⟩ = some (.int .i64 (n : Int)) := (HP.out.1.bel.cell (p := ⟨g, _, none⟩) hg).trans hcell
      have xg : g < wr.heap.size := Nat.lt_of_lt_of_le hg HP.out.1.bel.size
      have HC := Lib.hid (HV.out wr G stc s n HP.out.1 hs)
      have HR := Lib.hid hr
      clear hd hn hs hr hcell hg HMc
      go_wp2_with fail
      refine (HC.out).mono ?_
      rintro e w3 ⟨rfl, g1, g2⟩
      have HE := Lib.hid (⟨g1, HP.out.2.trans g2⟩ : _ ∧ _)
      clear g1 g2 HC HP xc xg
      go_wp2_with fail
      go_roundw
      case rel => exact ⟨k + 1, s, by go_num, by omega, HR, HE⟩
      case measure => simp [intOf]; omega
    · have hkm : k = m := by omega
      subst hkm
      have HF : Hid (FAt w0 wr G lv l st' ∧ Fs w0 W wr) := Lib.hid (by
        have h9 := HMc.out
        rw [List.drop_of_length_le (by rw [HL.out]; exact Nat.le_refl _)] at h9
        simp only [kidsP, Option.some.injEq] at h9
        rw [← h9]
        exact HP.out)
      clear HMc HP
      go_wp2_with fail
      exact bodyPost_ret (v := .tuple #[]) (by simp [results, Tryz.results66, go_sem]) rfl ⟨rfl, HF.out⟩
end ScD
end Go.Proofs.YtmdkocegnbcgmaaGreatDoor
namespace Go.Proofs.YtmdkocegnbcgmaaGreatDoor
open Go.RowKit ObjM Go.Maps RoundM
namespace ScD
open TreeD (Nd NdsAt KidsAt)
open ParD (Row addrP info_partsP infoIntP)

theorem infoMapP : (Tryz.prog.info? 102).map (fun i => (i.zero, i.size, i.bytes)) = some (some (.map none), 1, 8) := by kernel_rfl
theorem makeMapP (W : World) : (Instr.makeMap 102 none).run Tryz.prog W = .ok (.map (some W.heap.size)) (W.alloc (.map #[] 0)) := by kernel_rfl
theorem FAt.opened {w0 W : World} {G : Nat} {lv : Value} {l : List Nd} {st : FSt} (h : FAt w0 W G lv l st) (hb : st.blocks.length ≤ 2000) :
    ∃ ba bc, W.cell? ⟨G, 5, none⟩ = some (.slice ba st.blocks.length bc) ∧ G < W.heap.size ∧ ∃ v2 W2, (Builtin.append_ #[67, 67] 67 #[.slice ba st.blocks.length bc, .slice (some ⟨W.heap.size + 1, 0, none⟩) 1 1]).run Tryz.prog ((W.alloc (.map #[] 0)).alloc (.cells #[.map (some W.heap.size)] 102)) = .ok v2 W2 ∧
      (∃ a k m, v2 = .slice a k m) ∧ (∃ u, W2.cell? ⟨G, 5, none⟩ = some u) ∧ W2.frozen? ⟨G, 5, none⟩ = false ∧ G < W2.heap.size ∧
      FAt w0 (W2.setCell ⟨G, 5, none⟩ v2) G lv l (openP st) ∧ Fs w0 W (W2.setCell ⟨G, 5, none⟩ v2) := by
  obtain ⟨vv, v0, v1, v2, v3, bv, ms, ho⟩ := h.ob
  have hml := ho.mlen
  obtain ⟨ba, bc, e⟩ : ∃ ba bc, bv = .slice ba ms.length bc := by
    rcases own_shape ho.row with ⟨rfl, e, -⟩ | ⟨g, cap, cs, rfl, -⟩
    · exact ⟨none, 0, by rw [e]⟩
    · exact ⟨_, _, rfl⟩
  subst e
  obtain ⟨i0, hi, hz0, hz1, hz2⟩ := info_partsP infoMapP
  have hbs := h.bel.size
  have hA := Has.new (W.alloc (.map #[] 0)) 102 [.map (some W.heap.size)]
  have hAs : (W.alloc (.map #[] 0)).heap.size = W.heap.size + 1 := by simp
  rw [hAs] at hA
  have hM0 := (MapIs.new W st.puts)
  have kA : KeepsT [] W ((W.alloc (.map #[] 0)).alloc (.cells #[.map (some W.heap.size)] 102)) := ((KeepsT.refl _ _).alloc _).alloc _
  obtain ⟨u2, W2, hrun, hrow, hg, -, hob⟩ := run_append_own_at (P := Tryz.prog) (w := (W.alloc (.map #[] 0)).alloc (.cells #[.map (some W.heap.size)] 102)) w0.heap.size 67 67 102 i0 _ 1 8 Tryz.underlying67 hi hz0 hz1 hz2 rfl (by decide) _ ms.length (ms.map fun m => .map (some m)) ((ho.row.alloc _).alloc _) ⟨W.heap.size + 1, 0, none⟩ 1 1 [.map (some W.heap.size)] rfl
    (fun j u hj => by
      rw [addrP, Nat.zero_add]
      exact (hA.cell j).trans hj)
    (by simp [Value.oneCell']) (by unfold maxLen; omega) (by omega) (by simp; omega)
  have hsz2 : W.heap.size + 2 ≤ W2.heap.size := by have := hg.size; simp at this; omega
  have kG : KeepsT [102] W W2 := (kA.mono (by simp)).grown hg (fun g hgb => by
    obtain ⟨cs, hcs⟩ := own_row ((ho.row.alloc (.map #[] 0)).alloc (.cells #[.map (some W.heap.size)] 102)) g hgb
    exact .inr ⟨_, _, hcs, by simp⟩)
  have bG : Below w0.heap.size W W2 := (((Below.refl _ W).alloc hbs _).alloc (by simp; omega) _).grown hg (by simp; omega) (fun g hgb => (own_lt ho.row g hgb).1)
  have hG2 := ho.obj.keepsT kG (by decide +kernel)
  have kS : KeepsT [69, 102] W (W2.setCell ⟨G, 5, none⟩ u2) := (kG.mono (by simp)).set hG2 (.inl (by simp)) 5 u2
  have bS : Below w0.heap.size W (W2.setCell ⟨G, 5, none⟩ u2) := bG.setCell h.low _
  have kP : KeepsT [69] W2 (W2.setCell ⟨G, 5, none⟩ u2) := (KeepsT.refl _ W2).set hG2 (.inl (by simp)) 5 u2
  have hF : Fs w0 W (W2.setCell ⟨G, 5, none⟩ u2) := ⟨KpC.of kS (by simp), bS⟩
  have hsh : ∃ a k m, u2 = Value.slice a k m := by
    rcases own_shape hrow with ⟨-, e2, -⟩ | ⟨g, cap, cs, e2, -⟩
    · omega
    · exact ⟨_, _, _, e2⟩
  have hmap : ∀ {m : Nat} {f : Sees}, MapIs W m st.puts f → MapIs (W2.setCell ⟨G, 5, none⟩ u2) m st.puts f := by
    intro m f q
    refine q.block (kS.block m q.lt (fun cs t fr hc _ => ?_))
    obtain ⟨n9, D, _, ⟨es, cl, hb9, _⟩, _⟩ := q
    rw [hb9] at hc
    cases hc
  have hnew : MapIs (W2.setCell ⟨G, 5, none⟩ u2) W.heap.size st.puts noSees := by
    refine hM0.block ?_
    have hne : W.heap.size ≠ G := by have := ho.obj.lt; omega
    rw [(Keeps.set W2 G 5 u2).block W.heap.size (by omega) (by simpa using hne)]
    have h1 : W2.heap[W.heap.size]? = ((W.alloc (.map #[] 0)).alloc (.cells #[.map (some W.heap.size)] 102)).heap[W.heap.size]? := hg.block _ (by simp; omega) (fun e => by
      have := (own_lt ho.row W.heap.size e.symm).2
      omega)
    rw [h1]
    exact Below.heap_alloc _ _ _ (by simp)
  refine ⟨ba, bc, by rw [ho.obj.cell 5, ← hml]; rfl, ho.obj.lt, u2, W2, by rw [← hml]; exact hrun, hsh, ⟨_, hG2.cell 5⟩, hG2.frozen 5, hG2.lt, ⟨h.nds, h.bel.trans bS, h.low, vv, v0, v1, v2, v3, u2, ms ++ [W.heap.size], ?_⟩, hF⟩
  refine ⟨hG2.set 5 u2, own_keepsT ho.vars kS (by decide +kernel), ho.r0.keepsT kS (by decide +kernel), ho.r1.keepsT kS (by decide +kernel), ho.r2.keepsT kS (by decide +kernel), ho.r3.keepsT kS (by decide +kernel), ho.d01, ho.d02, ho.d03, ho.d12, ho.d13, ho.d23, ?_, ?_, fun i m f hi2 hf => ?_, ?_⟩
  · have := own_keepsT hrow kP (by decide +kernel)
    rw [List.length_append, List.map_append]
    exact this
  · simp [openP, hml]
  · simp only [openP] at hf
    by_cases hlt : i < ms.length
    · rw [List.getElem?_append_left hlt] at hi2
      rw [List.getElem?_append_left (by omega)] at hf
      obtain ⟨q1, q2⟩ := ho.maps i m f hi2 hf
      exact ⟨q1, hmap q2⟩
    · rw [List.getElem?_append_right (by omega)] at hi2
      have hz := (List.getElem?_eq_some_iff.1 hi2).1
      simp at hz
      have e : i = ms.length := by omega
      subst e
      rw [List.getElem?_append_right (by omega)] at hf
      simp at hi2
      rw [hml] at hf
      simp at hf
      subst hi2 hf
      exact ⟨hbs, hnew⟩
  · rw [List.nodup_append]
    refine ⟨ho.nd, by simp, ?_⟩
    intro a ha b hb9
    rw [List.mem_singleton] at hb9
    subst hb9
    obtain ⟨j, hj⟩ := List.getElem?_of_mem ha
    have hlt : j < st.blocks.length := by rw [← ho.mlen]; exact (List.getElem?_eq_some_iff.1 hj).1
    have := (ho.maps j a _ hj (List.getElem?_eq_getElem hlt)).2.lt
    omega
theorem FAt.closed {w0 W : World} {G q : Nat} {lv : Value} {l : List Nd} {st : FSt} (h : FAt w0 W G lv l st) (hq : st.blocks.length = q + 1) :
    ∃ g k, W.cell? ⟨G, 5, none⟩ = some (.slice (some ⟨g, 0, none⟩) (q + 1) k) ∧ W.frozen? ⟨G, 5, none⟩ = false ∧ G < W.heap.size ∧ q + 1 ≤ k ∧ k ≤ maxLen ∧
      FAt w0 (W.setCell ⟨G, 5, none⟩ (.slice (some ⟨g, 0, none⟩) q k)) G lv l (popP st) ∧ Fs w0 W (W.setCell ⟨G, 5, none⟩ (.slice (some ⟨g, 0, none⟩) q k)) := by
  obtain ⟨vv, v0, v1, v2, v3, bv, ms, ho⟩ := h.ob
  have hml := ho.mlen
  rcases own_shape ho.row with ⟨-, e, -⟩ | ⟨g, cap, cs, rfl, hB, hh, hnc, hcm, hcl, htk⟩
  · omega
  have kS : KeepsT [69] W (W.setCell ⟨G, 5, none⟩ (.slice (some ⟨g, 0, none⟩) q cap)) := (KeepsT.refl _ W).set ho.obj (.inl (by simp)) 5 _
  obtain ⟨f1, f2⟩ := fs_set (i := 5) (v := .slice (some ⟨g, 0, none⟩) q cap) h.bel h.low ho.obj (by simp)
  refine ⟨g, cap, by rw [ho.obj.cell 5, hml, hq]; rfl, ho.obj.frozen 5, ho.obj.lt, by omega, hcm, ⟨h.nds, f2, h.low, vv, v0, v1, v2, v3, .slice (some ⟨g, 0, none⟩) q cap, ms.take q, ?_⟩, f1⟩
  have hr := own_take ho.row (m := q) (by omega)
  rw [Nat.mul_one] at hr
  refine ⟨ho.obj.set 5 _, own_keepsT ho.vars kS (by decide +kernel), ho.r0.keepsT kS (by decide +kernel), ho.r1.keepsT kS (by decide +kernel), ho.r2.keepsT kS (by decide +kernel), ho.r3.keepsT kS (by decide +kernel), ho.d01, ho.d02, ho.d03, ho.d12, ho.d13, ho.d23, ?_, ?_, fun i m f hi hf => ?_, ho.nd.sublist (List.take_sublist _ _)⟩
  · rw [List.length_take, show min q ms.length = q by omega, List.map_take]
    exact own_keepsT hr kS (by decide +kernel)
  · simp [popP]
    omega
  · simp only [popP, List.dropLast_eq_take] at hf
    have hi9 := (List.getElem?_eq_some_iff.1 hi).1
    rw [List.length_take] at hi9
    rw [List.getElem?_take_of_lt (by omega)] at hi hf
    obtain ⟨q1, q2⟩ := ho.maps i m f hi hf
    refine ⟨q1, q2.block (kS.block m q2.lt (fun cs t fr hc _ => ?_))⟩
    obtain ⟨n9, D, _, ⟨es, cl, hb9, _⟩, _⟩ := q2
    rw [hb9] at hc
    cases hc
end ScD
end Go.Proofs.YtmdkocegnbcgmaaGreatDoor
namespace Go.Proofs.YtmdkocegnbcgmaaGreatDoor
open Go.RowKit ObjM Go.Maps RoundM
namespace ScD
open TreeD (Nd NdsAt KidsAt)
open ParD (Row addrP info_partsP infoIntP)

set_option maxRecDepth 100000 in
set_option maxHeartbeats 8000000 in
theorem within_v (w0 W : World) (G b1 b2 : Nat) (lv : Value) (l : List Nd) (st s2 : FSt) (h : FAt w0 W G lv l st) (hb : st.blocks.length ≤ 2000) (h2 : 0 < s2.blocks.length ∧ s2.blocks.length ≤ 2001)
    (hD : ∀ W', FAt w0 W' G lv l (openP st) → Fs w0 W W' → Calls Tryz.prog 65 #[.pointer (some ⟨b1, 0, none⟩), .pointer (some ⟨b2, 0, none⟩)] W' (Did w0 W' G lv l s2)) :
    Calls Tryz.prog 64 #[.pointer (some ⟨G, 0, none⟩), .func (.func 65) #[] #[.pointer (some ⟨b1, 0, none⟩), .pointer (some ⟨b2, 0, none⟩)]] W (Did w0 W G lv l (popP s2)) := by
  obtain ⟨ba, bc, c5, cl, v2, W2, hrun, ⟨a2, k2, m2, rfl⟩, ⟨u, y5⟩, yf, yl, hF, hS⟩ := h.opened hb
  have HRun := Lib.hid hrun
  have HX := Lib.hid (⟨hF, hS⟩ : _ ∧ _)
  have HD := Lib.hid (hD _ hF hS)
  have hmk := makeMapP
  obtain ⟨nb, hnb⟩ : ∃ nb, st.blocks.length = nb := ⟨_, rfl⟩
  rw [hnb] at c5 HRun
  obtain ⟨q, hq⟩ : ∃ q, s2.blocks.length = q + 1 := ⟨s2.blocks.length - 1, by omega⟩
  have HQ := Lib.hid hq
  have hq9 : q ≤ 2000 := by omega
  clear h hb hD hrun hF hS hnb h2 hq
  go_enter Tryz.func64, Tryz.ntmps64
  go_wp2_with (at_builtin; refine ParD.wpList_append_run (by rfl) (.tmp 8) (.tmp 10) 67 rfl _ _ _ _ rfl rfl HRun.out ?_)
  refine (HD.out).mono ?_
  rintro e w4 ⟨rfl, g1, g2⟩
  obtain ⟨g, k, d5, df, dl, dk, dm, hC, hSC⟩ := g1.closed HQ.out
  have HE : Hid (FAt w0 (w4.setCell ⟨G, 5, none⟩ (.slice (some ⟨g, 0, none⟩) q k)).drew G lv l (popP s2) ∧ Fs w0 W (w4.setCell ⟨G, 5, none⟩ (.slice (some ⟨g, 0, none⟩) q k)).drew) := Lib.hid ⟨hC.drew, ((HX.out.2.trans g2).trans hSC).drew⟩
  have hw1 : IntKind.i64.wrap ((q : Int) + 1 - 1) = (q : Int) := by rw [show (q : Int) + 1 - 1 = q by omega]; exact IntWalk.i64_in _ (by omega)
  have hw2 : IntKind.i64.wrap (q : Int) = (q : Int) := IntWalk.i64_in _ (by omega)
  have hq0 : (0 : Int) ≤ (q : Int) := by omega
  have hqk : (q : Int) ≤ (k : Int) := by omega
  have hqk2 : q ≤ k := by omega
  clear g1 g2 hC hSC HD HRun HX c5 cl y5 yf yl hmk dm
  go_wp2_with fail
  go_region
  all_goals
    go_wp2
    exact bodyPost_ret (v := .tuple #[]) (by simp [results, Tryz.results64, go_sem]) rfl ⟨rfl, HE.out⟩
set_option maxRecDepth 100000 in
set_option maxHeartbeats 8000000 in
theorem within_f (w0 W : World) (G b1 b2 : Nat) (lv : Value) (l : List Nd) (st s2 : FSt) (h : FAt w0 W G lv l st) (hb : st.blocks.length ≤ 2000) (h2 : 0 < s2.blocks.length ∧ s2.blocks.length ≤ 2001)
    (hD : ∀ W', FAt w0 W' G lv l (openP st) → Fs w0 W W' → Calls Tryz.prog 96 #[.pointer (some ⟨b1, 0, none⟩), .pointer (some ⟨b2, 0, none⟩)] W' (Did w0 W' G lv l s2)) :
    Calls Tryz.prog 64 #[.pointer (some ⟨G, 0, none⟩), .func (.func 96) #[] #[.pointer (some ⟨b1, 0, none⟩), .pointer (some ⟨b2, 0, none⟩)]] W (Did w0 W G lv l (popP s2)) := by
  obtain ⟨ba, bc, c5, cl, v2, W2, hrun, ⟨a2, k2, m2, rfl⟩, ⟨u, y5⟩, yf, yl, hF, hS⟩ := h.opened hb
  have HRun := Lib.hid hrun
  have HX := Lib.hid (⟨hF, hS⟩ : _ ∧ _)
  have HD := Lib.hid (hD _ hF hS)
  have hmk := makeMapP
  obtain ⟨nb, hnb⟩ : ∃ nb, st.blocks.length = nb := ⟨_, rfl⟩
  rw [hnb] at c5 HRun
  obtain ⟨q, hq⟩ : ∃ q, s2.blocks.length = q + 1 := ⟨s2.blocks.length - 1, by omega⟩
  have HQ := Lib.hid hq
  have hq9 : q ≤ 2000 := by omega
  clear h hb hD hrun hF hS hnb h2 hq
  go_enter Tryz.func64, Tryz.ntmps64
  go_wp2_with (at_builtin; refine ParD.wpList_append_run (by rfl) (.tmp 8) (.tmp 10) 67 rfl _ _ _ _ rfl rfl HRun.out ?_)
  refine (HD.out).mono ?_
  rintro e w4 ⟨rfl, g1, g2⟩
  obtain ⟨g, k, d5, df, dl, dk, dm, hC, hSC⟩ := g1.closed HQ.out
  have HE : Hid (FAt w0 (w4.setCell ⟨G, 5, none⟩ (.slice (some ⟨g, 0, none⟩) q k)).drew G lv l (popP s2) ∧ Fs w0 W (w4.setCell ⟨G, 5, none⟩ (.slice (some ⟨g, 0, none⟩) q k)).drew) := Lib.hid ⟨hC.drew, ((HX.out.2.trans g2).trans hSC).drew⟩
  have hw1 : IntKind.i64.wrap ((q : Int) + 1 - 1) = (q : Int) := by rw [show (q : Int) + 1 - 1 = q by omega]; exact IntWalk.i64_in _ (by omega)
  have hw2 : IntKind.i64.wrap (q : Int) = (q : Int) := IntWalk.i64_in _ (by omega)
  have hq0 : (0 : Int) ≤ (q : Int) := by omega
  have hqk : (q : Int) ≤ (k : Int) := by omega
  have hqk2 : q ≤ k := by omega
  clear g1 g2 hC hSC HD HRun HX c5 cl y5 yf yl hmk dm
  go_wp2_with fail
  go_region
  all_goals
    go_wp2
    exact bodyPost_ret (v := .tuple #[]) (by simp [results, Tryz.results64, go_sem]) rfl ⟨rfl, HE.out⟩
end ScD
end Go.Proofs.YtmdkocegnbcgmaaGreatDoor
namespace Go.Proofs.YtmdkocegnbcgmaaGreatDoor
open Go.RowKit ObjM Go.Maps RoundM
namespace ScD
open TreeD (Nd NdsAt KidsAt)
open ParD (Row addrP info_partsP infoIntP)

/-- The finder's parts but for itself. -/
structure FRs (w0 W : World) (st : FSt) (vv v0 v1 v2 v3 bv : Value) (ms : List Nat) : Prop where
  bel : Below w0.heap.size w0 W
  vars : W.ownsRow w0.heap.size 38 4 vv st.vars.length (rowVr st.vars)
  r0 : Row W w0.heap.size v0 st.uses
  r1 : Row W w0.heap.size v1 st.funcs
  r2 : Row W w0.heap.size v2 st.ups
  r3 : Row W w0.heap.size v3 st.counts
  d01 : ∀ g, v0.ownBlock = some g → v1.ownBlock ≠ some g
  d02 : ∀ g, v0.ownBlock = some g → v2.ownBlock ≠ some g
  d03 : ∀ g, v0.ownBlock = some g → v3.ownBlock ≠ some g
  d12 : ∀ g, v1.ownBlock = some g → v2.ownBlock ≠ some g
  d13 : ∀ g, v1.ownBlock = some g → v3.ownBlock ≠ some g
  d23 : ∀ g, v2.ownBlock = some g → v3.ownBlock ≠ some g
  row : W.ownsRow w0.heap.size 102 1 bv ms.length (ms.map fun m => .map (some m))
  mlen : ms.length = st.blocks.length
  maps : ∀ (i : Nat) m f, ms[i]? = some m → st.blocks[i]? = some f → w0.heap.size ≤ m ∧ MapIs W m st.puts f
  nd : ms.Nodup
theorem FOb.rest {w0 W : World} {G : Nat} {lv : Value} {st : FSt} {vv v0 v1 v2 v3 bv : Value} {ms : List Nat} (h : FOb w0 W G lv st vv v0 v1 v2 v3 bv ms) (hb : Below w0.heap.size w0 W) : FRs w0 W st vv v0 v1 v2 v3 bv ms :=
  ⟨hb, h.vars, h.r0, h.r1, h.r2, h.r3, h.d01, h.d02, h.d03, h.d12, h.d13, h.d23, h.row, h.mlen, h.maps, h.nd⟩
theorem FRs.whole {w0 W : World} {G : Nat} {lv : Value} {st : FSt} {vv v0 v1 v2 v3 bv : Value} {ms : List Nat} (h : FRs w0 W st vv v0 v1 v2 v3 bv ms) (ho : Has W G 69 [lv, vv, v0, v1, v2, bv, .int .i64 (st.fn : Int), v3, .int .i64 0]) : FOb w0 W G lv st vv v0 v1 v2 v3 bv ms :=
  ⟨ho, h.vars, h.r0, h.r1, h.r2, h.r3, h.d01, h.d02, h.d03, h.d12, h.d13, h.d23, h.row, h.mlen, h.maps, h.nd⟩
theorem FRs.mapsK {w0 W W' : World} {st : FSt} {vv v0 v1 v2 v3 bv : Value} {ms : List Nat} {ts : List TypeId} (h : FRs w0 W st vv v0 v1 v2 v3 bv ms) (k : KeepsT ts W W') : ∀ (i : Nat) m f, ms[i]? = some m → st.blocks[i]? = some f → w0.heap.size ≤ m ∧ MapIs W' m st.puts f := fun i m f hi hf => by
  obtain ⟨q1, q2⟩ := h.maps i m f hi hf
  refine ⟨q1, q2.block (k.block m q2.lt (fun cs t fr hc _ => ?_))⟩
  obtain ⟨n9, D, _, ⟨es, cl, hb9, _⟩, _⟩ := q2
  rw [hb9] at hc
  cases hc
theorem FRs.keepsT {w0 W W' : World} {st : FSt} {vv v0 v1 v2 v3 bv : Value} {ms : List Nat} {ts : List TypeId} (h : FRs w0 W st vv v0 v1 v2 v3 bv ms) (k : KeepsT ts W W') (kb : Below w0.heap.size W W') (h1 : 38 ∉ ts) (h2 : 3 ∉ ts) (h3 : 102 ∉ ts) : FRs w0 W' st vv v0 v1 v2 v3 bv ms :=
  ⟨h.bel.trans kb, own_keepsT h.vars k h1, h.r0.keepsT k h2, h.r1.keepsT k h2, h.r2.keepsT k h2, h.r3.keepsT k h2, h.d01, h.d02, h.d03, h.d12, h.d13, h.d23, own_keepsT h.row k h3, h.mlen, h.mapsK k, h.nd⟩
theorem FRs.alloc {w0 W : World} {st : FSt} {vv v0 v1 v2 v3 bv : Value} {ms : List Nat} (h : FRs w0 W st vv v0 v1 v2 v3 bv ms) (o : Obj) : FRs w0 (W.alloc o) st vv v0 v1 v2 v3 bv ms :=
  h.keepsT ((KeepsT.refl [] W).alloc o) ((Below.refl _ W).alloc h.bel.size o) (by simp) (by simp) (by simp)
theorem FRs.push1 {w0 W : World} {st : FSt} {vv v0 v1 v2 v3 bv : Value} {ms : List Nat} (h : FRs w0 W st vv v0 v1 v2 v3 bv ms) (a : Nat) (z : Int) (ha : W.cell? ⟨a, 0, none⟩ = some (.int .i64 z)) (hl : st.funcs.length ≤ 1000) :
    ∃ u W', (Builtin.append_ #[31, 31] 31 #[v1, .slice (some ⟨a, 0, none⟩) 1 1]).run Tryz.prog W = .ok u W' ∧ FRs w0 W' { st with funcs := st.funcs ++ [z] } vv v0 u v2 v3 bv ms ∧ KeepsT [3] W W' ∧ Below w0.heap.size W W' ∧ Keeps v1.ownBlock.toList W W' ∧ (∃ b k, u = .slice b (st.funcs.length + 1) k) := by
  obtain ⟨i0, hi, hz0, hz1, hz2⟩ := info_partsP infoIntP
  obtain ⟨u, W', hrun, hrow, hg, -, hob⟩ := run_append_own_at (P := Tryz.prog) (w := W) w0.heap.size 31 31 3 i0 (.int .i64 0) 1 8 Tryz.underlying31 hi hz0 hz1 hz2 rfl (by decide) v1 st.funcs.length (st.funcs.map (Value.int .i64)) h.r1 ⟨a, 0, none⟩ 1 1 [.int .i64 z] rfl
    (fun j x hj => by
      have hj1 := (List.getElem?_eq_some_iff.1 hj).1
      simp at hj1
      subst hj1
      simp at hj
      subst hj
      rw [addrP]
      exact ha)
    (by simp [Value.oneCell']) (by unfold maxLen; omega) (by omega) h.bel.size
  have K : Keeps v1.ownBlock.toList W W' := Keeps.grown hg
  have kT : KeepsT [3] W W' := (KeepsT.refl _ W).grown hg (fun g hgb => by
    obtain ⟨cs, hcs⟩ := own_row h.r1 g hgb
    exact .inr ⟨_, _, hcs, by simp⟩)
  have kB : Below w0.heap.size W W' := (Below.refl _ W).grown hg h.bel.size (fun g hgb => (own_lt h.r1 g hgb).1)
  have hne : ∀ g, u.ownBlock = some g → v1.ownBlock = some g ∨ W.heap.size ≤ g := fun g hgu => by
    rcases hob with e | e
    · exact .inl (e ▸ hgu)
    · rw [e] at hgu
      injection hgu with hgu
      exact .inr (by omega)
  have hsh : ∃ b k, u = .slice b (st.funcs.length + 1) k := by
    rcases own_shape hrow with ⟨-, e, -⟩ | ⟨g, cap, cs, e, -⟩
    · omega
    · exact ⟨_, _, e⟩
  exact ⟨u, W', hrun, ⟨h.bel.trans kB, own_keepsT h.vars kT (by decide +kernel), (own_keeps h.r0 K (fun g hg hm => by have e := Option.mem_toList.1 hm; exact absurd e (by exact h.d01 g hg))), (by rw [show ({ st with funcs := st.funcs ++ [z] } : FSt).funcs = st.funcs ++ [z] from rfl]; unfold Row; rw [List.length_append, List.map_append]; exact hrow), (own_keeps h.r2 K (fun g hg hm => by have e := Option.mem_toList.1 hm; exact absurd e (by exact fun e => h.d12 g e hg))), (own_keeps h.r3 K (fun g hg hm => by have e := Option.mem_toList.1 hm; exact absurd e (by exact fun e => h.d13 g e hg))), (fun g hg hu => (hne g hu).elim (fun e => h.d01 g hg e) (fun e => by have := (own_lt h.r0 g hg).2; omega)), h.d02, h.d03, (fun g hg hu => (hne g hg).elim (fun e => h.d12 g e hu) (fun e => by have := (own_lt h.r2 g hu).2; omega)), (fun g hg hu => (hne g hg).elim (fun e => h.d13 g e hu) (fun e => by have := (own_lt h.r3 g hu).2; omega)), h.d23, own_keepsT h.row kT (by decide +kernel), h.mlen, h.mapsK kT, h.nd⟩, kT, kB, K, hsh⟩
theorem FRs.push2 {w0 W : World} {st : FSt} {vv v0 v1 v2 v3 bv : Value} {ms : List Nat} (h : FRs w0 W st vv v0 v1 v2 v3 bv ms) (a : Nat) (z : Int) (ha : W.cell? ⟨a, 0, none⟩ = some (.int .i64 z)) (hl : st.ups.length ≤ 1000) :
    ∃ u W', (Builtin.append_ #[31, 31] 31 #[v2, .slice (some ⟨a, 0, none⟩) 1 1]).run Tryz.prog W = .ok u W' ∧ FRs w0 W' { st with ups := st.ups ++ [z] } vv v0 v1 u v3 bv ms ∧ KeepsT [3] W W' ∧ Below w0.heap.size W W' ∧ Keeps v2.ownBlock.toList W W' ∧ (∃ b k, u = .slice b (st.ups.length + 1) k) := by
  obtain ⟨i0, hi, hz0, hz1, hz2⟩ := info_partsP infoIntP
  obtain ⟨u, W', hrun, hrow, hg, -, hob⟩ := run_append_own_at (P := Tryz.prog) (w := W) w0.heap.size 31 31 3 i0 (.int .i64 0) 1 8 Tryz.underlying31 hi hz0 hz1 hz2 rfl (by decide) v2 st.ups.length (st.ups.map (Value.int .i64)) h.r2 ⟨a, 0, none⟩ 1 1 [.int .i64 z] rfl
    (fun j x hj => by
      have hj1 := (List.getElem?_eq_some_iff.1 hj).1
      simp at hj1
      subst hj1
      simp at hj
      subst hj
      rw [addrP]
      exact ha)
    (by simp [Value.oneCell']) (by unfold maxLen; omega) (by omega) h.bel.size
  have K : Keeps v2.ownBlock.toList W W' := Keeps.grown hg
  have kT : KeepsT [3] W W' := (KeepsT.refl _ W).grown hg (fun g hgb => by
    obtain ⟨cs, hcs⟩ := own_row h.r2 g hgb
    exact .inr ⟨_, _, hcs, by simp⟩)
  have kB : Below w0.heap.size W W' := (Below.refl _ W).grown hg h.bel.size (fun g hgb => (own_lt h.r2 g hgb).1)
  have hne : ∀ g, u.ownBlock = some g → v2.ownBlock = some g ∨ W.heap.size ≤ g := fun g hgu => by
    rcases hob with e | e
    · exact .inl (e ▸ hgu)
    · rw [e] at hgu
      injection hgu with hgu
      exact .inr (by omega)
  have hsh : ∃ b k, u = .slice b (st.ups.length + 1) k := by
    rcases own_shape hrow with ⟨-, e, -⟩ | ⟨g, cap, cs, e, -⟩
    · omega
    · exact ⟨_, _, e⟩
  exact ⟨u, W', hrun, ⟨h.bel.trans kB, own_keepsT h.vars kT (by decide +kernel), (own_keeps h.r0 K (fun g hg hm => by have e := Option.mem_toList.1 hm; exact absurd e (by exact h.d02 g hg))), (own_keeps h.r1 K (fun g hg hm => by have e := Option.mem_toList.1 hm; exact absurd e (by exact h.d12 g hg))), (by rw [show ({ st with ups := st.ups ++ [z] } : FSt).ups = st.ups ++ [z] from rfl]; unfold Row; rw [List.length_append, List.map_append]; exact hrow), (own_keeps h.r3 K (fun g hg hm => by have e := Option.mem_toList.1 hm; exact absurd e (by exact fun e => h.d23 g e hg))), h.d01, (fun g hg hu => (hne g hu).elim (fun e => h.d02 g hg e) (fun e => by have := (own_lt h.r0 g hg).2; omega)), h.d03, (fun g hg hu => (hne g hu).elim (fun e => h.d12 g hg e) (fun e => by have := (own_lt h.r1 g hg).2; omega)), h.d13, (fun g hg hu => (hne g hg).elim (fun e => h.d23 g e hu) (fun e => by have := (own_lt h.r3 g hu).2; omega)), own_keepsT h.row kT (by decide +kernel), h.mlen, h.mapsK kT, h.nd⟩, kT, kB, K, hsh⟩
theorem FRs.push3 {w0 W : World} {st : FSt} {vv v0 v1 v2 v3 bv : Value} {ms : List Nat} (h : FRs w0 W st vv v0 v1 v2 v3 bv ms) (a : Nat) (z : Int) (ha : W.cell? ⟨a, 0, none⟩ = some (.int .i64 z)) (hl : st.counts.length ≤ 1000) :
    ∃ u W', (Builtin.append_ #[31, 31] 31 #[v3, .slice (some ⟨a, 0, none⟩) 1 1]).run Tryz.prog W = .ok u W' ∧ FRs w0 W' { st with counts := st.counts ++ [z] } vv v0 v1 v2 u bv ms ∧ KeepsT [3] W W' ∧ Below w0.heap.size W W' ∧ Keeps v3.ownBlock.toList W W' ∧ (∃ b k, u = .slice b (st.counts.length + 1) k) := by
  obtain ⟨i0, hi, hz0, hz1, hz2⟩ := info_partsP infoIntP
  obtain ⟨u, W', hrun, hrow, hg, -, hob⟩ := run_append_own_at (P := Tryz.prog) (w := W) w0.heap.size 31 31 3 i0 (.int .i64 0) 1 8 Tryz.underlying31 hi hz0 hz1 hz2 rfl (by decide) v3 st.counts.length (st.counts.map (Value.int .i64)) h.r3 ⟨a, 0, none⟩ 1 1 [.int .i64 z] rfl
    (fun j x hj => by
      have hj1 := (List.getElem?_eq_some_iff.1 hj).1
      simp at hj1
      subst hj1
      simp at hj
      subst hj
      rw [addrP]
      exact ha)
    (by simp [Value.oneCell']) (by unfold maxLen; omega) (by omega) h.bel.size
  have K : Keeps v3.ownBlock.toList W W' := Keeps.grown hg
  have kT : KeepsT [3] W W' := (KeepsT.refl _ W).grown hg (fun g hgb => by
    obtain ⟨cs, hcs⟩ := own_row h.r3 g hgb
    exact .inr ⟨_, _, hcs, by simp⟩)
  have kB : Below w0.heap.size W W' := (Below.refl _ W).grown hg h.bel.size (fun g hgb => (own_lt h.r3 g hgb).1)
  have hne : ∀ g, u.ownBlock = some g → v3.ownBlock = some g ∨ W.heap.size ≤ g := fun g hgu => by
    rcases hob with e | e
    · exact .inl (e ▸ hgu)
    · rw [e] at hgu
      injection hgu with hgu
      exact .inr (by omega)
  have hsh : ∃ b k, u = .slice b (st.counts.length + 1) k := by
    rcases own_shape hrow with ⟨-, e, -⟩ | ⟨g, cap, cs, e, -⟩
    · omega
    · exact ⟨_, _, e⟩
  exact ⟨u, W', hrun, ⟨h.bel.trans kB, own_keepsT h.vars kT (by decide +kernel), (own_keeps h.r0 K (fun g hg hm => by have e := Option.mem_toList.1 hm; exact absurd e (by exact h.d03 g hg))), (own_keeps h.r1 K (fun g hg hm => by have e := Option.mem_toList.1 hm; exact absurd e (by exact h.d13 g hg))), (own_keeps h.r2 K (fun g hg hm => by have e := Option.mem_toList.1 hm; exact absurd e (by exact h.d23 g hg))), (by rw [show ({ st with counts := st.counts ++ [z] } : FSt).counts = st.counts ++ [z] from rfl]; unfold Row; rw [List.length_append, List.map_append]; exact hrow), h.d01, h.d02, (fun g hg hu => (hne g hu).elim (fun e => h.d03 g hg e) (fun e => by have := (own_lt h.r0 g hg).2; omega)), h.d12, (fun g hg hu => (hne g hu).elim (fun e => h.d13 g hg e) (fun e => by have := (own_lt h.r1 g hg).2; omega)), (fun g hg hu => (hne g hu).elim (fun e => h.d23 g hg e) (fun e => by have := (own_lt h.r2 g hg).2; omega)), own_keepsT h.row kT (by decide +kernel), h.mlen, h.mapsK kT, h.nd⟩, kT, kB, K, hsh⟩
end ScD
end Go.Proofs.YtmdkocegnbcgmaaGreatDoor
namespace Go.Proofs.YtmdkocegnbcgmaaGreatDoor
open Go.RowKit ObjM Go.Maps RoundM
namespace ScD
open TreeD (Nd NdsAt KidsAt)
open ParD (Row addrP info_partsP infoIntP)

theorem FAt.inner {w0 W : World} {G q : Nat} {lv : Value} {l : List Nd} {st : FSt} (h : FAt w0 W G lv l st) (hq : st.blocks.length = q + 1) :
    ∃ g k m, W.cell? ⟨G, 5, none⟩ = some (.slice (some ⟨g, 0, none⟩) (q + 1) k) ∧ W.cell? ⟨g, q, none⟩ = some (.map (some m)) ∧ g < W.heap.size ∧ G < W.heap.size := by
  obtain ⟨vv, v0, v1, v2, v3, bv, ms, ho⟩ := h.ob
  have hml := ho.mlen
  rcases own_shape ho.row with ⟨-, e, -⟩ | ⟨g, cap, cs, rfl, hB, hh, hnc, hcm, hcl, htk⟩
  · omega
  obtain ⟨m, hm⟩ : ∃ m, ms[q]? = some m := ⟨_, List.getElem?_eq_getElem (by omega)⟩
  have hrc : W.cell? ⟨g, q, none⟩ = some (.map (some m)) := by
    have := own_cell ho.row q (by simp; omega)
    rw [this, List.getElem_map]
    rw [List.getElem?_eq_getElem (by omega)] at hm
    injection hm with hm
    rw [hm]
  exact ⟨g, cap, m, by rw [ho.obj.cell 5, hml, hq]; rfl, hrc, hh.lt, ho.obj.lt⟩
set_option maxRecDepth 100000 in
set_option maxHeartbeats 8000000 in
theorem fdo_any (w0 W : World) (G b0 b1 : Nat) (lv kv : Value) (l : List Nd) (V : Nat → FSt → Option FSt) (hV : DoesV w0 lv l V) (st s2 : FSt) (a : Int) (m : Nat) (h : FAt w0 W G lv l st) (hb : 0 < st.blocks.length ∧ st.blocks.length ≤ 2001)
    (h0 : Has W b0 64 [.pointer (some ⟨G, 0, none⟩)]) (h1 : Has W b1 31 [kv]) (hk : KidsAt w0 kv [a, (m : Int)]) (hM : V m st = some s2) :
    Calls Tryz.prog 96 #[.pointer (some ⟨b0, 0, none⟩), .pointer (some ⟨b1, 0, none⟩)] W (Did w0 W G lv l s2) := by
  obtain ⟨q, hq⟩ : ∃ q, st.blocks.length = q + 1 := ⟨st.blocks.length - 1, by omega⟩
  obtain ⟨g5, k5, m5, e5, ec, eg, eG⟩ := h.inner hq
  obtain ⟨av, kc, e⟩ := hk.shape
  subst e
  obtain ⟨kb, ko, hav, hkb, hkc⟩ := hk.at 1 (by simp)
  subst hav
  have p0 := h0.cell 0
  have l0 := h0.lt
  have p1 := h1.cell 0
  have l1 := h1.lt
  simp only [List.getElem?_cons_zero] at p0 p1
  have p1 : W.cell? ⟨b1, 0, none⟩ = some (.slice (some ⟨kb, ko, none⟩) 2 kc) := p1
  have xc : W.cell? ⟨kb, ko + 1, none⟩ = some (.int .i64 (m : Int)) := (h.bel.cell (p := ⟨kb, _, none⟩) hkb).trans hkc
  have xl : kb < W.heap.size := Nat.lt_of_lt_of_le hkb h.bel.size
  have HV := Lib.hid (fun i => hV (W.drewN i) G st s2 m (h.drewN i) hM)
  have hw1 : IntKind.i64.wrap ((q : Int) + 1 - 1) = (q : Int) := by rw [show (q : Int) + 1 - 1 = q by omega]; exact IntWalk.i64_in _ (by omega)
  have hw2 : IntKind.i64.wrap (q : Int) = (q : Int) := IntWalk.i64_in _ (by omega)
  have hq0 : (0 : Int) ≤ (q : Int) := by omega
  have hq3 : (q : Int) < (q : Int) + 1 := by omega
  have HFd : Hid (∀ i w', FAt w0 w' G lv l s2 → Fs w0 (W.drewN i) w' → FAt w0 w' G lv l s2 ∧ Fs w0 W w') := Lib.hid fun i w' g1 g2 => ⟨g1, ((Fs.refl w0 W).drewN i).trans g2⟩
  have H0 := Lib.hid h0
  have H1 := Lib.hid h1
  have HKB := Lib.hid hkb
  clear h hb hV hM hk h0 h1 hq hkb hkc
  go_enter Tryz.func96, Tryz.ntmps96
  go_wp2
  go_quiet (fail)
  go_wp2
  have P0 : (W.drewN nq).cell? ⟨b0, 0, none⟩ = some (.pointer (some ⟨G, 0, none⟩)) := p0
  have P1 : (W.drewN nq).cell? ⟨b1, 0, none⟩ = some (.slice (some ⟨kb, ko, none⟩) 2 kc) := p1
  have PC : (W.drewN nq).cell? ⟨kb, ko + 1, none⟩ = some (.int .i64 (m : Int)) := xc
  have L0 : b0 < (W.drewN nq).heap.size := l0
  have L1 : b1 < (W.drewN nq).heap.size := l1
  have LK : kb < (W.drewN nq).heap.size := xl
  have HV2 : Hid (Calls Tryz.prog 37 #[.pointer (some ⟨G, 0, none⟩), .int .i64 (m : Int)] (W.drewN nq).drew (Did w0 (W.drewN nq).drew G lv l s2)) := Lib.hid (by have h9 := HV.out (nq + 1); exact h9)
  have HF2 : Hid (∀ w', FAt w0 w' G lv l s2 → Fs w0 (W.drewN nq).drew w' → FAt w0 w' G lv l s2 ∧ Fs w0 W w') := Lib.hid (fun w' g1 g2 => HFd.out (nq + 1) w' g1 g2)
  have HKp : Hid (∀ W', Fs w0 (W.drewN nq).drew W' → W'.cell? ⟨b0, 0, none⟩ = some (.pointer (some ⟨G, 0, none⟩)) ∧ W'.cell? ⟨b1, 0, none⟩ = some (.slice (some ⟨kb, ko, none⟩) 2 kc) ∧ W'.cell? ⟨kb, ko + 1, none⟩ = some (.int .i64 (m : Int))) := Lib.hid fun W' hf => ⟨(hf.k b0 _ _ (by decide +kernel) H0.out).cell 0, (hf.k b1 _ _ (by decide +kernel) H1.out).cell 0, (hf.b.cell (p := ⟨kb, _, none⟩) HKB.out).trans xc⟩
  have HF0 : Hid (Fs w0 (W.drewN nq).drew (W.drewN nq).drew) := Lib.hid (Fs.refl _ _)
  generalize W.drewN nq = X at P0 P1 PC L0 L1 LK HV2 HF2 HKp HF0 ⊢
  clear p0 p1 xc xl l0 l1 HV HFd e5 ec eg eG hw1 hw2 hq0 hq3
  go_loopw [25] (fun s wl => s = .int .i64 0 ∧ X = wl) (fun _ _ => 0)
  case atStart => exact ⟨rfl, rfl⟩
  case round =>
    obtain ⟨rfl, rfl⟩ := hrel
    have hx1 : IntKind.i64.wrap 1 = 1 := by decide
    go_wp2
    go_still_tail 7, (by kernel_rfl)
    change wpList _ _ _ _ _ X.drew
    go_wp2_with fail
    refine (HV2.out).mono ?_
    rintro e w3 ⟨rfl, g1, g2⟩
    have HE := Lib.hid (HF2.out w3 g1 g2)
    clear g1 g2
    go_wp2_with fail
    exact bodyPost_ret (v := .tuple #[]) (by simp [results, Tryz.results96, go_sem]) rfl ⟨rfl, HE.out⟩
end ScD
end Go.Proofs.YtmdkocegnbcgmaaGreatDoor
namespace Go.Proofs.YtmdkocegnbcgmaaGreatDoor
open Go.RowKit ObjM Go.Maps RoundM
namespace ScD
open TreeD (Nd NdsAt KidsAt)
open ParD (Row addrP info_partsP infoIntP)

def SF (b0 G : Nat) (c1 c2 : Value) : Nat → World → Prop := fun i W => (i = 6 → W.cell? ⟨G, 3, none⟩ = some c1) ∧ (i = 14 → W.cell? ⟨G, 4, none⟩ = some c2) ∧ W.cell? ⟨b0, 0, none⟩ = some (.pointer (some ⟨G, 0, none⟩))
theorem presF {md : Region.Mode} {ops : Array Oper} {j b0 G : Nat} {c1 c2 : Value} {w w' : World} (h1 : depB md ops j 6 = true ∨ (w.cell? ⟨G, 3, none⟩ = some c1 → w'.cell? ⟨G, 3, none⟩ = some c1)) (h2 : depB md ops j 14 = true ∨ (w.cell? ⟨G, 4, none⟩ = some c2 → w'.cell? ⟨G, 4, none⟩ = some c2))
    (h3 : w.cell? ⟨b0, 0, none⟩ = some (.pointer (some ⟨G, 0, none⟩)) → w'.cell? ⟨b0, 0, none⟩ = some (.pointer (some ⟨G, 0, none⟩))) : ∀ i, depB md ops j i = false → SF b0 G c1 c2 i w → SF b0 G c1 c2 i w' := by
  intro i hd hs
  refine ⟨fun e => ?_, fun e => ?_, h3 hs.2.2⟩
  · subst e
    rcases h1 with h1 | h1
    · rw [h1] at hd; cases hd
    · exact h1 (hs.1 rfl)
  · subst e
    rcases h2 with h2 | h2
    · rw [h2] at hd; cases hd
    · exact h2 (hs.2.1 rfl)
theorem bl1 (X : World) (o : Obj) : Below X.heap.size X (X.alloc o) := (Below.refl _ _).alloc (Nat.le_refl _) o
theorem bl2 (X : World) (o p : Obj) : Below X.heap.size X ((X.alloc o).alloc p) := (bl1 X o).alloc (by simp) p
theorem cell_new (X : World) (z : Int) (t : TypeId) : (X.alloc (.cells #[.int .i64 z] t)).cell? ⟨X.heap.size, 0, none⟩ = some (.int .i64 z) := (Has.new X t [.int .i64 z]).cell 0
theorem cell_new1 (X : World) (z : Int) (t : TypeId) (p : Obj) : ((X.alloc (.cells #[.int .i64 z] t)).alloc p).cell? ⟨X.heap.size, 0, none⟩ = some (.int .i64 z) := ((Has.new X t [.int .i64 z]).keeps (Keeps.alloc [] _ p) (by simp)).cell 0
theorem cell_new2 (X : World) (z : Int) (t : TypeId) (o : Obj) : ((X.alloc o).alloc (.cells #[.int .i64 z] t)).cell? ⟨X.heap.size + 1, 0, none⟩ = some (.int .i64 z) := by
  have h := (Has.new (X.alloc o) t [.int .i64 z]).cell 0
  rw [World.size_alloc] at h
  exact h
/-- One row has grown. -/
structure Ap1 (w0 X0 X : World) (st : FSt) (n : Nat) (vv v0 v2 v3 bv : Value) (ms : List Nat) (u : Value) (X' : World) : Prop where
  fr : FRs w0 X' { st with funcs := st.funcs ++ [(n : Int)] } vv v0 u v2 v3 bv ms
  kT : KeepsT [3] X0 X'
  kB : Below w0.heap.size X0 X'
  kk : ∀ a, X0.heap.size ≤ a → a < X.heap.size → X'.heap[a]? = X.heap[a]?
  sh : ∃ b k, u = .slice b (st.funcs.length + 1) k
theorem Ap1.src {w0 X0 X : World} {st : FSt} {n a : Nat} {vv v0 v2 v3 bv : Value} {ms : List Nat} {u : Value} {X' : World} {z : Int} (h : Ap1 w0 X0 X st n vv v0 v2 v3 bv ms u X') (ha : X.cell? ⟨a, 0, none⟩ = some (.int .i64 z)) (h0 : X0.heap.size ≤ a := by simp) : X'.cell? ⟨a, 0, none⟩ = some (.int .i64 z) := by
  have hl := (TreeD.cell_spot ha).2
  simp only at hl
  simp only [World.cell?] at ha ⊢
  rw [h.kk a h0 hl]
  exact ha
theorem ap1 {w0 X0 X : World} {st : FSt} {n a : Nat} {vv v0 v1 v2 v3 bv : Value} {ms : List Nat} (h : FRs w0 X0 st vv v0 v1 v2 v3 bv ms) (hX : Below X0.heap.size X0 X) (ha : X.cell? ⟨a, 0, none⟩ = some (.int .i64 (n : Int))) (hl : st.funcs.length ≤ 1000) :
    ∃ u X', (Builtin.append_ #[31, 31] 31 #[v1, .slice (some ⟨a, 0, none⟩) 1 1]).run Tryz.prog X = .ok u X' ∧ Ap1 w0 X0 X st n vv v0 v2 v3 bv ms u X' := by
  have kX := KeepsT.below hX []
  have hx := h.keepsT kX (hX.mono h.bel.size) (by simp) (by simp) (by simp)
  obtain ⟨u, X', hrun, hf, kT, kB, K, hs⟩ := hx.push1 a n ha hl
  refine ⟨u, X', hrun, ⟨hf, (kX.mono (by simp)).trans kT (fun _ h => h), (hX.mono h.bel.size).trans kB, fun b hb hbl => K.block b hbl (fun hm => ?_), hs⟩⟩
  have := (own_lt h.r1 b (Option.mem_toList.1 hm)).2
  omega
structure Ap2 (w0 X0 : World) (st : FSt) (n : Nat) (vv v0 v3 bv : Value) (ms : List Nat) (u1 u2 : Value) (X' : World) : Prop where
  fr : FRs w0 X' { st with funcs := st.funcs ++ [(n : Int)], ups := st.ups ++ [(st.fn : Int)] } vv v0 u1 u2 v3 bv ms
  kT : KeepsT [3] X0 X'
  kB : Below w0.heap.size X0 X'
  sh : ∃ b k, u2 = .slice b (st.ups.length + 1) k
theorem ap2 {w0 X0 X X' Y : World} {st : FSt} {n a : Nat} {vv v0 v2 v3 bv u1 : Value} {ms : List Nat} (h : Ap1 w0 X0 X st n vv v0 v2 v3 bv ms u1 X') (hY : Below X'.heap.size X' Y) (ha : Y.cell? ⟨a, 0, none⟩ = some (.int .i64 (st.fn : Int))) (hl : st.ups.length ≤ 1000) :
    ∃ u2 Y', (Builtin.append_ #[31, 31] 31 #[v2, .slice (some ⟨a, 0, none⟩) 1 1]).run Tryz.prog Y = .ok u2 Y' ∧ Ap2 w0 X0 st n vv v0 v3 bv ms u1 u2 Y' := by
  have kY := KeepsT.below hY []
  have hy := h.fr.keepsT kY (hY.mono h.fr.bel.size) (by simp) (by simp) (by simp)
  obtain ⟨u2, Y', hrun, hf, kT, kB, K, hs⟩ := hy.push2 a st.fn ha hl
  exact ⟨u2, Y', hrun, ⟨hf, (h.kT.trans kY (by simp)).trans kT (fun _ h => h), (h.kB.trans (hY.mono h.fr.bel.size)).trans kB, hs⟩⟩
/-- What stands behind a function's beginning. -/
structure Fun1 (w0 W : World) (G n b0 b1 : Nat) (lv kv : Value) (l : List Nd) (st : FSt) (wx : World) : Prop where
  f : FAt w0 wx G lv l { st with funcs := st.funcs ++ [(n : Int)], ups := st.ups ++ [(st.fn : Int)] }
  s : Fs w0 W wx
  h0 : Has wx b0 64 [.pointer (some ⟨G, 0, none⟩)]
  h1 : Has wx b1 31 [kv]
theorem fun1_of {w0 W X0 X' : World} {G n b0 b1 : Nat} {lv kv : Value} {l : List Nd} {st : FSt} {vv v0 v1 v2 v3 bv : Value} {ms : List Nat} {u1 u2 : Value} (hn : NdsAt w0 lv l) (hlow : w0.heap.size ≤ G) (hG : Has X0 G 69 [lv, vv, v0, v1, v2, bv, .int .i64 (st.fn : Int), v3, .int .i64 0]) (hW : Fs w0 W X0) (hb0 : Has X0 b0 64 [.pointer (some ⟨G, 0, none⟩)]) (hb1 : Has X0 b1 31 [kv]) (h : Ap2 w0 X0 st n vv v0 v3 bv ms u1 u2 X') :
    Fun1 w0 W G n b0 b1 lv kv l st ((X'.setCell ⟨G, 3, none⟩ u1).setCell ⟨G, 4, none⟩ u2) := by
  have g1 := hG.keepsT h.kT (by decide +kernel)
  have k1 : KeepsT [69] X' (X'.setCell ⟨G, 3, none⟩ u1) := (KeepsT.refl _ _).set g1 (.inl (by simp)) 3 _
  have k2 : KeepsT [69] X' ((X'.setCell ⟨G, 3, none⟩ u1).setCell ⟨G, 4, none⟩ u2) := k1.set (g1.set 3 u1) (.inl (by simp)) 4 _
  have b2 : Below w0.heap.size X' ((X'.setCell ⟨G, 3, none⟩ u1).setCell ⟨G, 4, none⟩ u2) := ((Below.refl _ _).setCell hlow _).setCell hlow _
  have kk : KeepsT [69, 3] X0 ((X'.setCell ⟨G, 3, none⟩ u1).setCell ⟨G, 4, none⟩ u2) := (h.kT.mono (by simp)).trans k2 (by simp)
  have hf := h.fr.keepsT k2 b2 (by decide +kernel) (by decide +kernel) (by decide +kernel)
  refine ⟨⟨hn, hf.bel, hlow, vv, v0, u1, u2, v3, bv, ms, hf.whole ?_⟩, hW.trans ⟨KpC.of kk (by simp), h.kB.trans b2⟩, hb0.keepsT kk (by decide +kernel), hb1.keepsT kk (by decide +kernel)⟩
  exact (g1.set 3 u1).set 4 u2
theorem FAt.parts {w0 X0 : World} {G : Nat} {lv : Value} {l : List Nd} {st : FSt} (h : FAt w0 X0 G lv l st) : ∃ vv v0 fa fc ua uc v3 bv ms, Has X0 G 69 [lv, vv, v0, .slice fa st.funcs.length fc, .slice ua st.ups.length uc, bv, .int .i64 (st.fn : Int), v3, .int .i64 0] ∧ FRs w0 X0 st vv v0 (.slice fa st.funcs.length fc) (.slice ua st.ups.length uc) v3 bv ms := by
  obtain ⟨vv, v0, v1, v2, v3, bv, ms, ho⟩ := h.ob
  obtain ⟨fa, fc, rfl⟩ := ho.r1.shape
  obtain ⟨ua, uc, rfl⟩ := ho.r2.shape
  exact ⟨vv, v0, fa, fc, ua, uc, v3, bv, ms, ho.obj, ho.rest h.bel⟩
theorem nds_at2 {w0 W : World} {G : Nat} {lv : Value} {l : List Nd} {st : FSt} {n : Nat} {x : Nd} (h : FAt w0 W G lv l st) (hx : l[n]? = some x) : ∃ b o kv c, W.cell? ⟨G, 0, none⟩ = some (.slice (some ⟨b, o, none⟩) l.length c) ∧ lv = .slice (some ⟨b, o, none⟩) l.length c ∧ b < W.heap.size ∧ b ≠ G ∧ (n : Int) < (l.length : Int) ∧ TreeD.NdCells W b o n kv x ∧ KidsAt w0 kv x.kids := by
  obtain ⟨vv, v0, v1, v2, v3, bv, ms, ho⟩ := h.ob
  have hn := (List.getElem?_eq_some_iff.1 hx).1
  obtain ⟨av, c, e⟩ := h.nds.shape
  subst e
  obtain ⟨b, o, kv, e, hb, q0, q1, q2, q3, q4⟩ := h.nds.at n hn
  subst e
  have hxx : l[n] = x := by
    rw [List.getElem?_eq_getElem hn] at hx
    injection hx
  rw [hxx] at q0 q1 q3 q4
  exact ⟨b, o, kv, c, ho.obj.cell 0, rfl, Nat.lt_of_lt_of_le hb h.bel.size, by have := h.low; omega, by omega, ⟨(h.bel.cell (p := ⟨b, _, none⟩) hb).trans q0, (h.bel.cell (p := ⟨b, _, none⟩) hb).trans q1, (h.bel.cell (p := ⟨b, _, none⟩) hb).trans q2, (h.bel.cell (p := ⟨b, _, none⟩) hb).trans q3, q4.below (Nat.le_refl _) h.bel⟩, q4⟩
theorem fun_some {l : List Nd} {V : Nat → FSt → Option FSt} {n : Nat} {st st' : FSt} (h : funP l V n st = some st') : ∃ x a m s, l[n]? = some x ∧ x.kids = [a, ((m : Nat) : Int)] ∧ V m (openP { st with funcs := st.funcs ++ [(n : Int)], ups := st.ups ++ [(st.fn : Int)], counts := st.counts ++ [0], fn := st.funcs.length }) = some s ∧ st' = { popP s with fn := st.fn } := by
  unfold funP at h
  split at h
  · rename_i x hx
    split at h
    · rename_i a b hk
      split at h
      · rename_i h1
        rw [Option.map_eq_some_iff] at h
        obtain ⟨s, hs, h⟩ := h
        exact ⟨x, a, b.toNat, s, hx, by rw [hk]; congr; omega, hs, h.symm⟩
      · cases h
    · cases h
  · cases h
theorem FAt.parts3 {w0 X0 : World} {G : Nat} {lv : Value} {l : List Nd} {st : FSt} (h : FAt w0 X0 G lv l st) : ∃ vv v0 v1 v2 ca cc bv ms, Has X0 G 69 [lv, vv, v0, v1, v2, bv, .int .i64 (st.fn : Int), .slice ca st.counts.length cc, .int .i64 0] ∧ FRs w0 X0 st vv v0 v1 v2 (.slice ca st.counts.length cc) bv ms := by
  obtain ⟨vv, v0, v1, v2, v3, bv, ms, ho⟩ := h.ob
  obtain ⟨ca, cc, rfl⟩ := ho.r3.shape
  exact ⟨vv, v0, v1, v2, ca, cc, bv, ms, ho.obj, ho.rest h.bel⟩
theorem FAt.setFn {w0 W : World} {G : Nat} {lv : Value} {l : List Nd} {st : FSt} (h : FAt w0 W G lv l st) (f : Nat) :
    FAt w0 ((W.setCell ⟨G, 6, none⟩ (.int .i64 (f : Int))).setCell ⟨G, 8, none⟩ (.int .i64 0)) G lv l { st with fn := f } ∧ Fs w0 W ((W.setCell ⟨G, 6, none⟩ (.int .i64 (f : Int))).setCell ⟨G, 8, none⟩ (.int .i64 0)) := by
  obtain ⟨vv, v0, v1, v2, v3, bv, ms, ho⟩ := h.ob
  have k1 : KeepsT [69] W (W.setCell ⟨G, 6, none⟩ (.int .i64 (f : Int))) := (KeepsT.refl _ _).set ho.obj (.inl (by simp)) 6 _
  have k2 : KeepsT [69] W ((W.setCell ⟨G, 6, none⟩ (.int .i64 (f : Int))).setCell ⟨G, 8, none⟩ (.int .i64 0)) := k1.set (ho.obj.set 6 _) (.inl (by simp)) 8 _
  have b2 : Below w0.heap.size W ((W.setCell ⟨G, 6, none⟩ (.int .i64 (f : Int))).setCell ⟨G, 8, none⟩ (.int .i64 0)) := ((Below.refl _ _).setCell h.low _).setCell h.low _
  have hf := (ho.rest h.bel).keepsT k2 b2 (by decide +kernel) (by decide +kernel) (by decide +kernel)
  have hf2 : FRs w0 _ { st with fn := f } vv v0 v1 v2 v3 bv ms := ⟨hf.bel, hf.vars, hf.r0, hf.r1, hf.r2, hf.r3, hf.d01, hf.d02, hf.d03, hf.d12, hf.d13, hf.d23, hf.row, hf.mlen, hf.maps, hf.nd⟩
  exact ⟨⟨h.nds, hf.bel, h.low, vv, v0, v1, v2, v3, bv, ms, hf2.whole ((ho.obj.set 6 _).set 8 _)⟩, KpC.of k2 (by simp), b2⟩
/-- What stands while a function is gone through. -/
structure Fun2 (w0 W : World) (G b0 b1 : Nat) (lv kv : Value) (l : List Nd) (st : FSt) (wx : World) : Prop where
  f : FAt w0 wx G lv l st
  s : Fs w0 W wx
  h0 : Has wx b0 64 [.pointer (some ⟨G, 0, none⟩)]
  h1 : Has wx b1 31 [kv]
theorem Fun2.next {w0 W wx wy : World} {G b0 b1 : Nat} {lv kv : Value} {l : List Nd} {st st' : FSt} (h : Fun2 w0 W G b0 b1 lv kv l st wx) (hf : FAt w0 wy G lv l st') (hs : Fs w0 wx wy) : Fun2 w0 W G b0 b1 lv kv l st' wy :=
  ⟨hf, h.s.trans hs, hs.k _ _ _ (by decide +kernel) h.h0, hs.k _ _ _ (by decide +kernel) h.h1⟩
theorem fun2_of {w0 W X0 X' : World} {G b0 b1 : Nat} {lv kv : Value} {l : List Nd} {st : FSt} {vv v0 v1 v2 v3 u bv : Value} {ms : List Nat} (hn : NdsAt w0 lv l) (hlow : w0.heap.size ≤ G) (hG : Has X0 G 69 [lv, vv, v0, v1, v2, bv, .int .i64 (st.fn : Int), v3, .int .i64 0]) (hW : Fun2 w0 W G b0 b1 lv kv l st X0) (hf : FRs w0 X' { st with counts := st.counts ++ [0] } vv v0 v1 v2 u bv ms) (kT : KeepsT [3] X0 X') (kB : Below w0.heap.size X0 X') :
    Fun2 w0 W G b0 b1 lv kv l { st with counts := st.counts ++ [0] } (X'.setCell ⟨G, 7, none⟩ u) := by
  have g1 := hG.keepsT kT (by decide +kernel)
  have k2 : KeepsT [69] X' (X'.setCell ⟨G, 7, none⟩ u) := (KeepsT.refl _ _).set g1 (.inl (by simp)) 7 _
  have b2 : Below w0.heap.size X' (X'.setCell ⟨G, 7, none⟩ u) := (Below.refl _ _).setCell hlow _
  have kk : KeepsT [69, 3] X0 (X'.setCell ⟨G, 7, none⟩ u) := (kT.mono (by simp)).trans k2 (by simp)
  have hf2 := hf.keepsT k2 b2 (by decide +kernel) (by decide +kernel) (by decide +kernel)
  exact hW.next ⟨hn, hf2.bel, hlow, vv, v0, v1, v2, u, bv, ms, hf2.whole (g1.set 7 u)⟩ ⟨KpC.of kk (by simp), kB.trans b2⟩
def SG (b0 G : Nat) (c1 : Value) : Nat → World → Prop := fun i W => (i = 4 → W.cell? ⟨G, 7, none⟩ = some c1) ∧ W.cell? ⟨b0, 0, none⟩ = some (.pointer (some ⟨G, 0, none⟩))
theorem presG {md : Region.Mode} {ops : Array Oper} {j b0 G : Nat} {c1 : Value} {w w' : World} (h1 : depB md ops j 4 = true ∨ (w.cell? ⟨G, 7, none⟩ = some c1 → w'.cell? ⟨G, 7, none⟩ = some c1))
    (h3 : w.cell? ⟨b0, 0, none⟩ = some (.pointer (some ⟨G, 0, none⟩)) → w'.cell? ⟨b0, 0, none⟩ = some (.pointer (some ⟨G, 0, none⟩))) : ∀ i, depB md ops j i = false → SG b0 G c1 i w → SG b0 G c1 i w' := by
  intro i hd hs
  refine ⟨fun e => ?_, h3 hs.2⟩
  subst e
  rcases h1 with h1 | h1
  · rw [h1] at hd; cases hd
  · exact h1 (hs.1 rfl)
set_option maxRecDepth 100000 in
set_option maxHeartbeats 16000000 in
theorem function_any (w0 W : World) (G : Nat) (lv : Value) (l : List Nd) (V : Nat → FSt → Option FSt) (hV : DoesV w0 lv l V) (hL : ∀ n s s', V n s = some s' → s'.blocks.length = s.blocks.length) (st st' : FSt) (n : Nat) (h : FAt w0 W G lv l st) (hbl : st.blocks.length ≤ 1000) (hM : funP l V n st = some st') :
    Calls Tryz.prog 68 #[.pointer (some ⟨G, 0, none⟩), .int .i64 (n : Int)] W (Did w0 W G lv l st') := by
  obtain ⟨vars, uses, funcs, ups, counts, blocks, fn, puts⟩ := st
  have HM := Lib.hid hM
  have hx : ∃ x, l[n]? = some x := by
    unfold funP at hM
    split at hM
    · exact ⟨_, by assumption⟩
    · cases hM
  have hlens : funcs.length ≤ 1000 ∧ ups.length ≤ 1000 ∧ counts.length ≤ 1000 := by
    unfold funP at hM
    split at hM
    · split at hM
      · split at hM
        · rename_i h9
          simp only at h9
          omega
        · cases hM
      · cases hM
    · cases hM
  obtain ⟨x, hx⟩ := hx
  obtain ⟨lb, lo, kv, lc, e0, -, ebl, ebG, enl, ⟨ek, et, ekv, -, -⟩, ekk⟩ := nds_at2 h hx
  have HKk := Lib.hid ekk
  obtain ⟨ka, kc, rfl⟩ := ekk.shape
  obtain ⟨vv0, v00, fa0, fc0, ua0, uc0, v30, bv0, ms0, hG0, -⟩ := h.parts
  have aG := hG0.lt
  have a6 := hG0.cell 6
  have a8 := hG0.cell 8
  simp only [List.getElem?_cons_zero, List.getElem?_cons_succ] at a6 a8
  have hn0 : (0 : Int) ≤ (n : Int) := by omega
  have HX : Hid (∀ q, FAt w0 (((W.alloc (.cells #[.pointer (some ⟨G, 0, none⟩)] 64)).alloc (.cells #[.slice ka x.kids.length kc] 31)).drewN q) G lv l ⟨vars, uses, funcs, ups, counts, blocks, fn, puts⟩ ∧ Fs w0 W (((W.alloc (.cells #[.pointer (some ⟨G, 0, none⟩)] 64)).alloc (.cells #[.slice ka x.kids.length kc] 31)).drewN q) ∧ Has (((W.alloc (.cells #[.pointer (some ⟨G, 0, none⟩)] 64)).alloc (.cells #[.slice ka x.kids.length kc] 31)).drewN q) W.heap.size 64 [.pointer (some ⟨G, 0, none⟩)] ∧ Has (((W.alloc (.cells #[.pointer (some ⟨G, 0, none⟩)] 64)).alloc (.cells #[.slice ka x.kids.length kc] 31)).drewN q) (W.heap.size + 1) 31 [.slice ka x.kids.length kc]) := Lib.hid fun q => by
    refine ⟨((h.alloc _).alloc _).drewN q, (Fs.below (bl2 W _ _) h.bel.size).drewN q, ((Has.new W 64 [.pointer (some ⟨G, 0, none⟩)]).keeps (Keeps.alloc [] _ (.cells #[.slice ka x.kids.length kc] 31)) (by simp)).keeps (Keeps.drewN [] _ q) (by simp), ?_⟩
    have h9 := Has.new (W.alloc (.cells #[.pointer (some ⟨G, 0, none⟩)] 64)) 31 [.slice ka x.kids.length kc]
    rw [World.size_alloc] at h9
    exact h9
  clear h hM hG0 et ekk
  go_enter Tryz.func68, Tryz.ntmps68
  go_wp2
  go_quiet (fail)
  go_wp2
  have HX2 := Lib.hid (HX.out nq)
  generalize (((W.alloc (.cells #[.pointer (some ⟨G, 0, none⟩)] 64)).alloc (.cells #[.slice ka x.kids.length kc] 31)).drewN nq) = X at HX2 ⊢
  clear HX e0 ebl ebG enl ek ekv aG a6 a8
  generalize hb1 : W.heap.size + 1 = b1 at HX2 ⊢
  generalize hb0 : W.heap.size = b0 at HX2 ⊢
  clear hb1 hb0
  obtain ⟨vv, v0, fa, fc, ua, uc, v3, bv, ms, hG, hR⟩ := HX2.out.1.parts
  simp only at hG hR
  have hR0 : FRs w0 X.drew ⟨vars, uses, funcs, ups, counts, blocks, fn, puts⟩ vv v0 (.slice fa funcs.length fc) (.slice ua ups.length uc) v3 bv ms := hR.keepsT (KeepsT.drew (KeepsT.refl [] X)) ((Below.refl _ _).drew) (by simp) (by simp) (by simp)
  have hfl : (⟨vars, uses, funcs, ups, counts, blocks, fn, puts⟩ : FSt).funcs.length ≤ 1000 := hlens.1
  have hul : (⟨vars, uses, funcs, ups, counts, blocks, fn, puts⟩ : FSt).ups.length ≤ 1000 := hlens.2.1
  have HFin : Hid (∀ u1 u2 X', Ap2 w0 X.drew ⟨vars, uses, funcs, ups, counts, blocks, fn, puts⟩ n vv v0 v3 bv ms u1 u2 X' → Fun1 w0 W G n b0 b1 lv (.slice ka x.kids.length kc) l ⟨vars, uses, funcs, ups, counts, blocks, fn, puts⟩ ((X'.setCell ⟨G, 3, none⟩ u1).setCell ⟨G, 4, none⟩ u2)) := Lib.hid fun u1 u2 X' hq => fun1_of HX2.out.1.nds HX2.out.1.low hG.drew HX2.out.2.1.drew HX2.out.2.2.1.drew HX2.out.2.2.2.drew hq
  have HGb : Hid (∀ W', KeepsT [3] X.drew W' → W'.cell? ⟨G, 3, none⟩ = some (.slice fa funcs.length fc) ∧ W'.cell? ⟨G, 4, none⟩ = some (.slice ua ups.length uc) ∧ W'.cell? ⟨b0, 0, none⟩ = some (.pointer (some ⟨G, 0, none⟩))) := Lib.hid fun W' hk => by
    have g1 := hG.drew.keepsT hk (by decide +kernel)
    exact ⟨g1.cell 3, g1.cell 4, (HX2.out.2.2.1.drew.keepsT hk (by decide +kernel)).cell 0⟩
  have HSt : Hid (∀ W', KeepsT [3] X.drew W' → W'.cell? ⟨G, 3, none⟩ = some (.slice fa funcs.length fc) ∧ W'.cell? ⟨G, 4, none⟩ = some (.slice ua ups.length uc) ∧ W'.frozen? ⟨G, 3, none⟩ = false ∧ W'.frozen? ⟨G, 4, none⟩ = false ∧ G < W'.heap.size) := Lib.hid fun W' hk => by
    have g1 := hG.drew.keepsT hk (by decide +kernel)
    exact ⟨g1.cell 3, g1.cell 4, g1.frozen 3, g1.frozen 4, g1.lt⟩
  have hne : b0 ≠ G := fun e => (HX2.out.2.2.1.ne hG (by decide +kernel)) e
  have HSb : Hid (∀ (W' : World) (i : Nat) (v : Value), (W'.setCell ⟨G, i, none⟩ v).cell? ⟨b0, 0, none⟩ = W'.cell? ⟨b0, 0, none⟩) := Lib.hid fun W' i v => by
    simp only [World.cell?]
    rw [Below.heap_setCell _ _ _ b0 (by simpa using hne)]
  obtain ⟨k3, k4, k0⟩ := HGb.out X.drew (KeepsT.refl _ _)
  clear hG hR
  go_cut [] (fun wx => Hid (Fun1 w0 W G n b0 b1 lv (.slice ka x.kids.length kc) l ⟨vars, uses, funcs, ups, counts, blocks, fn, puts⟩ wx))
  case first =>
    refine region_E (S := SF b0 G (.slice fa funcs.length fc) (.slice ua ups.length uc)) (by kernel_rfl) ?_
    refine wpAnyE_take (i := 0) (oi := { dst := some 23, op := Op.load 64 (.tmp 2), type := _, pos := _, after := _, guard := _ }) (v := .pointer (some ⟨G, 0, none⟩)) rfl (by kernel_rfl) (by kernel_rfl) (by kernel_rfl) (fun _ _ _ h => h) (Or.inl ⟨by rfl, ?_⟩) ⟨fun e => by omega, fun e => by omega, k0⟩ ?_
    · intro w' hs
      have s0 := hs.2.2
      go_simp
    try simp only [Act.put, List.setIfInBounds_toArray, List.set_cons_zero, List.set_cons_succ]
    refine wpAnyE_take (i := 1) (oi := { dst := some 24, op := Op.load 64 (.tmp 2), type := _, pos := _, after := _, guard := _ }) (v := .pointer (some ⟨G, 0, none⟩)) rfl (by kernel_rfl) (by kernel_rfl) (by kernel_rfl) (fun _ _ _ h => h) (Or.inl ⟨by rfl, ?_⟩) ⟨fun e => by omega, fun e => by omega, k0⟩ ?_
    · intro w' hs
      have s0 := hs.2.2
      go_simp
    try simp only [Act.put, List.setIfInBounds_toArray, List.set_cons_zero, List.set_cons_succ]
    refine wpAnyE_take (i := 2) (oi := { dst := some 25, op := Op.load 64 (.tmp 2), type := _, pos := _, after := _, guard := _ }) (v := .pointer (some ⟨G, 0, none⟩)) rfl (by kernel_rfl) (by kernel_rfl) (by kernel_rfl) (fun _ _ _ h => h) (Or.inl ⟨by rfl, ?_⟩) ⟨fun e => by omega, fun e => by omega, k0⟩ ?_
    · intro w' hs
      have s0 := hs.2.2
      go_simp
    try simp only [Act.put, List.setIfInBounds_toArray, List.set_cons_zero, List.set_cons_succ]
    refine wpAnyE_take (i := 3) (oi := { dst := some 26, op := Op.nilCheck (.tmp 25), type := _, pos := _, after := _, guard := _ }) (v := .pointer (some ⟨G, 0, none⟩)) rfl (by kernel_rfl) (by kernel_rfl) (by kernel_rfl) (fun _ _ _ h => h) (Or.inl ⟨by rfl, ?_⟩) ⟨fun e => by omega, fun e => by omega, k0⟩ ?_
    · intro w' hs
      clear hs
      go_simp
    try simp only [Act.put, List.setIfInBounds_toArray, List.set_cons_zero, List.set_cons_succ]
    refine wpAnyE_take (i := 4) (oi := { dst := some 27, op := Op.fieldAddr 69 (.tmp 26) 1, type := _, pos := _, after := _, guard := _ }) (v := .pointer (some ⟨G, 1, none⟩)) rfl (by kernel_rfl) (by kernel_rfl) (by kernel_rfl) (fun _ _ _ h => h) (Or.inl ⟨by rfl, ?_⟩) ⟨fun e => by omega, fun e => by omega, k0⟩ ?_
    · intro w' hs
      clear hs
      go_simp
    try simp only [Act.put, List.setIfInBounds_toArray, List.set_cons_zero, List.set_cons_succ]
    refine wpAnyE_take (i := 5) (oi := { dst := some 28, op := Op.fieldAddr 33 (.tmp 27) 2, type := _, pos := _, after := _, guard := _ }) (v := .pointer (some ⟨G, 3, none⟩)) rfl (by kernel_rfl) (by kernel_rfl) (by kernel_rfl) (fun _ _ _ h => h) (Or.inl ⟨by rfl, ?_⟩) ⟨fun e => by omega, fun e => by omega, k0⟩ ?_
    · intro w' hs
      clear hs
      go_simp
    try simp only [Act.put, List.setIfInBounds_toArray, List.set_cons_zero, List.set_cons_succ]
    refine wpAnyE_take (i := 6) (oi := { dst := some 29, op := Op.load 31 (.tmp 28), type := _, pos := _, after := _, guard := _ }) (v := .slice fa funcs.length fc) rfl (by kernel_rfl) (by kernel_rfl) (by kernel_rfl) (fun _ _ _ h => h) (Or.inl ⟨by rfl, ?_⟩) ⟨fun _ => k3, fun e => by omega, k0⟩ ?_
    · intro w' hs
      have s0 := hs.1 rfl
      go_simp
    try simp only [Act.put, List.setIfInBounds_toArray, List.set_cons_zero, List.set_cons_succ]
    refine wpAnyE_take (i := 7) (oi := { dst := some 30, op := Op.move (.tmp 1), type := _, pos := _, after := _, guard := _ }) (v := .int .i64 (n : Int)) rfl (by kernel_rfl) (by kernel_rfl) (by kernel_rfl) (fun _ _ _ h => h) (Or.inl ⟨by rfl, ?_⟩) ⟨fun e => by omega, fun e => by omega, k0⟩ ?_
    · intro w' hs
      clear hs
      go_simp
    try simp only [Act.put, List.setIfInBounds_toArray, List.set_cons_zero, List.set_cons_succ]
    refine wpAnyE_take (i := 10) (oi := { dst := some 33, op := Op.load 64 (.tmp 2), type := _, pos := _, after := _, guard := _ }) (v := .pointer (some ⟨G, 0, none⟩)) rfl (by kernel_rfl) (by kernel_rfl) (by kernel_rfl) (fun _ _ _ h => h) (Or.inl ⟨by rfl, ?_⟩) ⟨fun e => by omega, fun e => by omega, k0⟩ ?_
    · intro w' hs
      have s0 := hs.2.2
      go_simp
    try simp only [Act.put, List.setIfInBounds_toArray, List.set_cons_zero, List.set_cons_succ]
    refine wpAnyE_take (i := 11) (oi := { dst := some 34, op := Op.nilCheck (.tmp 33), type := _, pos := _, after := _, guard := _ }) (v := .pointer (some ⟨G, 0, none⟩)) rfl (by kernel_rfl) (by kernel_rfl) (by kernel_rfl) (fun _ _ _ h => h) (Or.inl ⟨by rfl, ?_⟩) ⟨fun e => by omega, fun e => by omega, k0⟩ ?_
    · intro w' hs
      clear hs
      go_simp
    try simp only [Act.put, List.setIfInBounds_toArray, List.set_cons_zero, List.set_cons_succ]
    refine wpAnyE_take (i := 12) (oi := { dst := some 35, op := Op.fieldAddr 69 (.tmp 34) 1, type := _, pos := _, after := _, guard := _ }) (v := .pointer (some ⟨G, 1, none⟩)) rfl (by kernel_rfl) (by kernel_rfl) (by kernel_rfl) (fun _ _ _ h => h) (Or.inl ⟨by rfl, ?_⟩) ⟨fun e => by omega, fun e => by omega, k0⟩ ?_
    · intro w' hs
      clear hs
      go_simp
    try simp only [Act.put, List.setIfInBounds_toArray, List.set_cons_zero, List.set_cons_succ]
    refine wpAnyE_take (i := 13) (oi := { dst := some 36, op := Op.fieldAddr 33 (.tmp 35) 3, type := _, pos := _, after := _, guard := _ }) (v := .pointer (some ⟨G, 4, none⟩)) rfl (by kernel_rfl) (by kernel_rfl) (by kernel_rfl) (fun _ _ _ h => h) (Or.inl ⟨by rfl, ?_⟩) ⟨fun e => by omega, fun e => by omega, k0⟩ ?_
    · intro w' hs
      clear hs
      go_simp
    try simp only [Act.put, List.setIfInBounds_toArray, List.set_cons_zero, List.set_cons_succ]
    refine wpAnyE_take (i := 14) (oi := { dst := some 37, op := Op.load 31 (.tmp 36), type := _, pos := _, after := _, guard := _ }) (v := .slice ua ups.length uc) rfl (by kernel_rfl) (by kernel_rfl) (by kernel_rfl) (fun _ _ _ h => h) (Or.inl ⟨by rfl, ?_⟩) ⟨fun e => by omega, fun _ => k4, k0⟩ ?_
    · intro w' hs
      have s0 := hs.2.1 rfl
      go_simp
    try simp only [Act.put, List.setIfInBounds_toArray, List.set_cons_zero, List.set_cons_succ]
    refine wpAnyE_take (i := 15) (oi := { dst := some 38, op := Op.move (.tmp 5), type := _, pos := _, after := _, guard := _ }) (v := .int .i64 (fn : Int)) rfl (by kernel_rfl) (by kernel_rfl) (by kernel_rfl) (fun _ _ _ h => h) (Or.inl ⟨by rfl, ?_⟩) ⟨fun e => by omega, fun e => by omega, k0⟩ ?_
    · intro w' hs
      clear hs
      go_simp
    try simp only [Act.put, List.setIfInBounds_toArray, List.set_cons_zero, List.set_cons_succ]
    refine wpAnyE_ready (rs := [8, 16]) (by kernel_rfl) (by simp) ?_
    refine AllReadyE.cons (o := { dst := some 31, op := Op.buildSlice 31 1 #[(0, .tmp 30)], type := _, pos := _, after := _, guard := _ }) rfl (fun K hK => ?_) ?_
    · go_simp
      refine hK.out _ _ (fun _ _ _ => ⟨fun _ => (HGb.out _ ((KeepsT.refl _ _).alloc _)).1, fun _ => (HGb.out _ ((KeepsT.refl _ _).alloc _)).2.1, (HGb.out _ ((KeepsT.refl _ _).alloc _)).2.2⟩) ?_
      clear hK K
      try simp only [Act.put, List.setIfInBounds_toArray, List.set_cons_zero, List.set_cons_succ]
      refine wpAnyE_ready (rs := [9, 16]) (by kernel_rfl) (by simp) ?_
      refine AllReadyE.cons (o := { dst := some 32, op := Op.call { callee := .builtin .append, args := #[.tmp 29, .tmp 31], argTypes := #[31, 31] }, type := _, pos := _, after := _, guard := _ }) rfl (fun K hK => ?_) ?_
      · refine ParD.step_append_ex rfl (.tmp 29) (.tmp 31) 31 rfl _ _ rfl rfl _ (ap1 hR0 (bl1 _ _) (cell_new _ _ _) hfl) ?_
        rintro u1 X5 hq1
        obtain ⟨b1s, c1s, rfl⟩ := hq1.sh
        refine hK.out _ _ (fun _ _ _ => ⟨fun _ => (HGb.out _ (hq1.kT)).1, fun _ => (HGb.out _ (hq1.kT)).2.1, (HGb.out _ (hq1.kT)).2.2⟩) ?_
        clear hK K
        try simp only [Act.put, List.setIfInBounds_toArray, List.set_cons_zero, List.set_cons_succ]
        refine wpAnyE_ready (rs := [16]) (by kernel_rfl) (by simp) ?_
        refine AllReadyE.cons (o := { dst := some 39, op := Op.buildSlice 31 1 #[(0, .tmp 38)], type := _, pos := _, after := _, guard := _ }) rfl (fun K hK => ?_) AllReadyE.nil
        go_simp
        refine hK.out _ _ (fun _ _ _ => ⟨fun _ => (HGb.out _ (hq1.kT.alloc _)).1, fun _ => (HGb.out _ (hq1.kT.alloc _)).2.1, (HGb.out _ (hq1.kT.alloc _)).2.2⟩) ?_
        clear hK K
        try simp only [Act.put, List.setIfInBounds_toArray, List.set_cons_zero, List.set_cons_succ]
        refine wpAnyE_ready (rs := [17]) (by kernel_rfl) (by simp) ?_
        refine AllReadyE.cons (o := { dst := some 40, op := Op.call { callee := .builtin .append, args := #[.tmp 37, .tmp 39], argTypes := #[31, 31] }, type := _, pos := _, after := _, guard := _ }) rfl (fun K hK => ?_) AllReadyE.nil
        refine ParD.step_append_ex rfl (.tmp 37) (.tmp 39) 31 rfl _ _ rfl rfl _ (ap2 hq1 (bl1 _ _) (cell_new _ _ _) hul) ?_
        rintro u2 X7 hq2
        obtain ⟨b2s, c2s, rfl⟩ := hq2.sh
        refine hK.out _ _ (fun _ _ _ => ⟨fun _ => (HGb.out _ (hq2.kT)).1, fun _ => (HGb.out _ (hq2.kT)).2.1, (HGb.out _ (hq2.kT)).2.2⟩) ?_
        clear hK K
        try simp only [Act.put, List.setIfInBounds_toArray, List.set_cons_zero, List.set_cons_succ]
        obtain ⟨y3, y4, yf3, yf4, yl⟩ := HSt.out _ hq2.kT
        refine wpAnyE_take (i := 18) (oi := { dst := some 41, op := Op.nilCheck (.tmp 23), type := _, pos := _, after := _, guard := _ }) (v := .pointer (some ⟨G, 0, none⟩)) rfl (by kernel_rfl) (by kernel_rfl) (by kernel_rfl) (fun _ _ _ h => h) (Or.inl ⟨by rfl, ?_⟩) ⟨fun e => by omega, fun e => by omega, (HGb.out _ hq2.kT).2.2⟩ ?_
        · intro w' hs
          clear hs
          go_simp
        try simp only [Act.put, List.setIfInBounds_toArray, List.set_cons_zero, List.set_cons_succ]
        refine wpAnyE_take (i := 19) (oi := { dst := some 42, op := Op.fieldAddr 69 (.tmp 41) 1, type := _, pos := _, after := _, guard := _ }) (v := .pointer (some ⟨G, 1, none⟩)) rfl (by kernel_rfl) (by kernel_rfl) (by kernel_rfl) (fun _ _ _ h => h) (Or.inl ⟨by rfl, ?_⟩) ⟨fun e => by omega, fun e => by omega, (HGb.out _ hq2.kT).2.2⟩ ?_
        · intro w' hs
          clear hs
          go_simp
        try simp only [Act.put, List.setIfInBounds_toArray, List.set_cons_zero, List.set_cons_succ]
        refine wpAnyE_take (i := 20) (oi := { dst := some 43, op := Op.fieldAddr 33 (.tmp 42) 2, type := _, pos := _, after := _, guard := _ }) (v := .pointer (some ⟨G, 3, none⟩)) rfl (by kernel_rfl) (by kernel_rfl) (by kernel_rfl) (fun _ _ _ h => h) (Or.inl ⟨by rfl, ?_⟩) ⟨fun e => by omega, fun e => by omega, (HGb.out _ hq2.kT).2.2⟩ ?_
        · intro w' hs
          clear hs
          go_simp
        try simp only [Act.put, List.setIfInBounds_toArray, List.set_cons_zero, List.set_cons_succ]
        refine wpAnyE_ready (rs := [21]) (by kernel_rfl) (by simp) ?_
        refine AllReadyE.cons (o := { dst := none, op := Op.store 31 (.tmp 43) (.tmp 32), type := _, pos := _, after := _, guard := _ }) rfl (fun K hK => ?_) AllReadyE.nil
        go_simp
        refine hK.out _ _ (presF (.inl (by kernel_rfl)) (.inl (by kernel_rfl)) (fun h => (HSb.out _ _ _).trans h)) ?_
        clear hK K
        try simp only [Act.put, List.setIfInBounds_toArray, List.set_cons_zero, List.set_cons_succ]
        refine wpAnyE_take (i := 22) (oi := { dst := some 44, op := Op.nilCheck (.tmp 24), type := _, pos := _, after := _, guard := _ }) (v := .pointer (some ⟨G, 0, none⟩)) rfl (by kernel_rfl) (by kernel_rfl) (by kernel_rfl) (fun _ _ _ h => h) (Or.inl ⟨by rfl, ?_⟩) ⟨fun e => by omega, fun e => by omega, (HSb.out _ _ _).trans (HGb.out _ hq2.kT).2.2⟩ ?_
        · intro w' hs
          clear hs
          go_simp
        try simp only [Act.put, List.setIfInBounds_toArray, List.set_cons_zero, List.set_cons_succ]
        refine wpAnyE_take (i := 23) (oi := { dst := some 45, op := Op.fieldAddr 69 (.tmp 44) 1, type := _, pos := _, after := _, guard := _ }) (v := .pointer (some ⟨G, 1, none⟩)) rfl (by kernel_rfl) (by kernel_rfl) (by kernel_rfl) (fun _ _ _ h => h) (Or.inl ⟨by rfl, ?_⟩) ⟨fun e => by omega, fun e => by omega, (HSb.out _ _ _).trans (HGb.out _ hq2.kT).2.2⟩ ?_
        · intro w' hs
          clear hs
          go_simp
        try simp only [Act.put, List.setIfInBounds_toArray, List.set_cons_zero, List.set_cons_succ]
        refine wpAnyE_take (i := 24) (oi := { dst := some 46, op := Op.fieldAddr 33 (.tmp 45) 3, type := _, pos := _, after := _, guard := _ }) (v := .pointer (some ⟨G, 4, none⟩)) rfl (by kernel_rfl) (by kernel_rfl) (by kernel_rfl) (fun _ _ _ h => h) (Or.inl ⟨by rfl, ?_⟩) ⟨fun e => by omega, fun e => by omega, (HSb.out _ _ _).trans (HGb.out _ hq2.kT).2.2⟩ ?_
        · intro w' hs
          clear hs
          go_simp
        try simp only [Act.put, List.setIfInBounds_toArray, List.set_cons_zero, List.set_cons_succ]
        refine wpAnyE_ready (rs := [25]) (by kernel_rfl) (by simp) ?_
        refine AllReadyE.cons (o := { dst := none, op := Op.store 31 (.tmp 46) (.tmp 40), type := _, pos := _, after := _, guard := _ }) rfl (fun K hK => ?_) AllReadyE.nil
        go_simp
        refine hK.out _ _ (presF (.inl (by kernel_rfl)) (.inl (by kernel_rfl)) (fun h => (HSb.out _ _ _).trans h)) ?_
        clear hK K
        try simp only [Act.put, List.setIfInBounds_toArray, List.set_cons_zero, List.set_cons_succ]
        refine wpAnyE_done (by kernel_rfl) ?_ _
        have HE := Lib.hid (HFin.out _ _ _ hq2)
        clear hq1 hq2 y3 y4 yf3 yf4 yl
        go_wp2_with fail
        go_meet
        exact HE
      refine AllReadyE.cons (o := { dst := some 39, op := Op.buildSlice 31 1 #[(0, .tmp 38)], type := _, pos := _, after := _, guard := _ }) rfl (fun K hK => ?_) AllReadyE.nil
      go_simp
      refine hK.out _ _ (fun _ _ _ => ⟨fun _ => (HGb.out _ (((KeepsT.refl _ _).alloc _).alloc _)).1, fun _ => (HGb.out _ (((KeepsT.refl _ _).alloc _).alloc _)).2.1, (HGb.out _ (((KeepsT.refl _ _).alloc _).alloc _)).2.2⟩) ?_
      clear hK K
      try simp only [Act.put, List.setIfInBounds_toArray, List.set_cons_zero, List.set_cons_succ]
      refine wpAnyE_ready (rs := [9]) (by kernel_rfl) (by simp) ?_
      refine AllReadyE.cons (o := { dst := some 32, op := Op.call { callee := .builtin .append, args := #[.tmp 29, .tmp 31], argTypes := #[31, 31] }, type := _, pos := _, after := _, guard := _ }) rfl (fun K hK => ?_) AllReadyE.nil
      refine ParD.step_append_ex rfl (.tmp 29) (.tmp 31) 31 rfl _ _ rfl rfl _ (ap1 hR0 (bl2 _ _ _) (cell_new1 _ _ _ _) hfl) ?_
      rintro u1 X5 hq1
      obtain ⟨b1s, c1s, rfl⟩ := hq1.sh
      refine hK.out _ _ (fun _ _ _ => ⟨fun _ => (HGb.out _ (hq1.kT)).1, fun _ => (HGb.out _ (hq1.kT)).2.1, (HGb.out _ (hq1.kT)).2.2⟩) ?_
      clear hK K
      try simp only [Act.put, List.setIfInBounds_toArray, List.set_cons_zero, List.set_cons_succ]
      refine wpAnyE_ready (rs := [17]) (by kernel_rfl) (by simp) ?_
      refine AllReadyE.cons (o := { dst := some 40, op := Op.call { callee := .builtin .append, args := #[.tmp 37, .tmp 39], argTypes := #[31, 31] }, type := _, pos := _, after := _, guard := _ }) rfl (fun K hK => ?_) AllReadyE.nil
      refine ParD.step_append_ex rfl (.tmp 37) (.tmp 39) 31 rfl _ _ rfl rfl _ (ap2 hq1 (Below.refl _ _) (hq1.src (cell_new2 _ _ _ _)) hul) ?_
      rintro u2 X7 hq2
      obtain ⟨b2s, c2s, rfl⟩ := hq2.sh
      refine hK.out _ _ (fun _ _ _ => ⟨fun _ => (HGb.out _ (hq2.kT)).1, fun _ => (HGb.out _ (hq2.kT)).2.1, (HGb.out _ (hq2.kT)).2.2⟩) ?_
      clear hK K
      try simp only [Act.put, List.setIfInBounds_toArray, List.set_cons_zero, List.set_cons_succ]
      obtain ⟨y3, y4, yf3, yf4, yl⟩ := HSt.out _ hq2.kT
      refine wpAnyE_take (i := 18) (oi := { dst := some 41, op := Op.nilCheck (.tmp 23), type := _, pos := _, after := _, guard := _ }) (v := .pointer (some ⟨G, 0, none⟩)) rfl (by kernel_rfl) (by kernel_rfl) (by kernel_rfl) (fun _ _ _ h => h) (Or.inl ⟨by rfl, ?_⟩) ⟨fun e => by omega, fun e => by omega, (HGb.out _ hq2.kT).2.2⟩ ?_
      · intro w' hs
        clear hs
        go_simp
      try simp only [Act.put, List.setIfInBounds_toArray, List.set_cons_zero, List.set_cons_succ]
      refine wpAnyE_take (i := 19) (oi := { dst := some 42, op := Op.fieldAddr 69 (.tmp 41) 1, type := _, pos := _, after := _, guard := _ }) (v := .pointer (some ⟨G, 1, none⟩)) rfl (by kernel_rfl) (by kernel_rfl) (by kernel_rfl) (fun _ _ _ h => h) (Or.inl ⟨by rfl, ?_⟩) ⟨fun e => by omega, fun e => by omega, (HGb.out _ hq2.kT).2.2⟩ ?_
      · intro w' hs
        clear hs
        go_simp
      try simp only [Act.put, List.setIfInBounds_toArray, List.set_cons_zero, List.set_cons_succ]
      refine wpAnyE_take (i := 20) (oi := { dst := some 43, op := Op.fieldAddr 33 (.tmp 42) 2, type := _, pos := _, after := _, guard := _ }) (v := .pointer (some ⟨G, 3, none⟩)) rfl (by kernel_rfl) (by kernel_rfl) (by kernel_rfl) (fun _ _ _ h => h) (Or.inl ⟨by rfl, ?_⟩) ⟨fun e => by omega, fun e => by omega, (HGb.out _ hq2.kT).2.2⟩ ?_
      · intro w' hs
        clear hs
        go_simp
      try simp only [Act.put, List.setIfInBounds_toArray, List.set_cons_zero, List.set_cons_succ]
      refine wpAnyE_ready (rs := [21]) (by kernel_rfl) (by simp) ?_
      refine AllReadyE.cons (o := { dst := none, op := Op.store 31 (.tmp 43) (.tmp 32), type := _, pos := _, after := _, guard := _ }) rfl (fun K hK => ?_) AllReadyE.nil
      go_simp
      refine hK.out _ _ (presF (.inl (by kernel_rfl)) (.inl (by kernel_rfl)) (fun h => (HSb.out _ _ _).trans h)) ?_
      clear hK K
      try simp only [Act.put, List.setIfInBounds_toArray, List.set_cons_zero, List.set_cons_succ]
      refine wpAnyE_take (i := 22) (oi := { dst := some 44, op := Op.nilCheck (.tmp 24), type := _, pos := _, after := _, guard := _ }) (v := .pointer (some ⟨G, 0, none⟩)) rfl (by kernel_rfl) (by kernel_rfl) (by kernel_rfl) (fun _ _ _ h => h) (Or.inl ⟨by rfl, ?_⟩) ⟨fun e => by omega, fun e => by omega, (HSb.out _ _ _).trans (HGb.out _ hq2.kT).2.2⟩ ?_
      · intro w' hs
        clear hs
        go_simp
      try simp only [Act.put, List.setIfInBounds_toArray, List.set_cons_zero, List.set_cons_succ]
      refine wpAnyE_take (i := 23) (oi := { dst := some 45, op := Op.fieldAddr 69 (.tmp 44) 1, type := _, pos := _, after := _, guard := _ }) (v := .pointer (some ⟨G, 1, none⟩)) rfl (by kernel_rfl) (by kernel_rfl) (by kernel_rfl) (fun _ _ _ h => h) (Or.inl ⟨by rfl, ?_⟩) ⟨fun e => by omega, fun e => by omega, (HSb.out _ _ _).trans (HGb.out _ hq2.kT).2.2⟩ ?_
      · intro w' hs
        clear hs
        go_simp
      try simp only [Act.put, List.setIfInBounds_toArray, List.set_cons_zero, List.set_cons_succ]
      refine wpAnyE_take (i := 24) (oi := { dst := some 46, op := Op.fieldAddr 33 (.tmp 45) 3, type := _, pos := _, after := _, guard := _ }) (v := .pointer (some ⟨G, 4, none⟩)) rfl (by kernel_rfl) (by kernel_rfl) (by kernel_rfl) (fun _ _ _ h => h) (Or.inl ⟨by rfl, ?_⟩) ⟨fun e => by omega, fun e => by omega, (HSb.out _ _ _).trans (HGb.out _ hq2.kT).2.2⟩ ?_
      · intro w' hs
        clear hs
        go_simp
      try simp only [Act.put, List.setIfInBounds_toArray, List.set_cons_zero, List.set_cons_succ]
      refine wpAnyE_ready (rs := [25]) (by kernel_rfl) (by simp) ?_
      refine AllReadyE.cons (o := { dst := none, op := Op.store 31 (.tmp 46) (.tmp 40), type := _, pos := _, after := _, guard := _ }) rfl (fun K hK => ?_) AllReadyE.nil
      go_simp
      refine hK.out _ _ (presF (.inl (by kernel_rfl)) (.inl (by kernel_rfl)) (fun h => (HSb.out _ _ _).trans h)) ?_
      clear hK K
      try simp only [Act.put, List.setIfInBounds_toArray, List.set_cons_zero, List.set_cons_succ]
      refine wpAnyE_done (by kernel_rfl) ?_ _
      have HE := Lib.hid (HFin.out _ _ _ hq2)
      clear hq1 hq2 y3 y4 yf3 yf4 yl
      go_wp2_with fail
      go_meet
      exact HE
    refine AllReadyE.cons (o := { dst := some 39, op := Op.buildSlice 31 1 #[(0, .tmp 38)], type := _, pos := _, after := _, guard := _ }) rfl (fun K hK => ?_) AllReadyE.nil
    go_simp
    refine hK.out _ _ (fun _ _ _ => ⟨fun _ => (HGb.out _ ((KeepsT.refl _ _).alloc _)).1, fun _ => (HGb.out _ ((KeepsT.refl _ _).alloc _)).2.1, (HGb.out _ ((KeepsT.refl _ _).alloc _)).2.2⟩) ?_
    clear hK K
    try simp only [Act.put, List.setIfInBounds_toArray, List.set_cons_zero, List.set_cons_succ]
    refine wpAnyE_ready (rs := [8]) (by kernel_rfl) (by simp) ?_
    refine AllReadyE.cons (o := { dst := some 31, op := Op.buildSlice 31 1 #[(0, .tmp 30)], type := _, pos := _, after := _, guard := _ }) rfl (fun K hK => ?_) AllReadyE.nil
    go_simp
    refine hK.out _ _ (fun _ _ _ => ⟨fun _ => (HGb.out _ (((KeepsT.refl _ _).alloc _).alloc _)).1, fun _ => (HGb.out _ (((KeepsT.refl _ _).alloc _).alloc _)).2.1, (HGb.out _ (((KeepsT.refl _ _).alloc _).alloc _)).2.2⟩) ?_
    clear hK K
    try simp only [Act.put, List.setIfInBounds_toArray, List.set_cons_zero, List.set_cons_succ]
    refine wpAnyE_ready (rs := [9]) (by kernel_rfl) (by simp) ?_
    refine AllReadyE.cons (o := { dst := some 32, op := Op.call { callee := .builtin .append, args := #[.tmp 29, .tmp 31], argTypes := #[31, 31] }, type := _, pos := _, after := _, guard := _ }) rfl (fun K hK => ?_) AllReadyE.nil
    refine ParD.step_append_ex rfl (.tmp 29) (.tmp 31) 31 rfl _ _ rfl rfl _ (ap1 hR0 (bl2 _ _ _) (cell_new2 _ _ _ _) hfl) ?_
    rintro u1 X5 hq1
    obtain ⟨b1s, c1s, rfl⟩ := hq1.sh
    refine hK.out _ _ (fun _ _ _ => ⟨fun _ => (HGb.out _ (hq1.kT)).1, fun _ => (HGb.out _ (hq1.kT)).2.1, (HGb.out _ (hq1.kT)).2.2⟩) ?_
    clear hK K
    try simp only [Act.put, List.setIfInBounds_toArray, List.set_cons_zero, List.set_cons_succ]
    refine wpAnyE_ready (rs := [17]) (by kernel_rfl) (by simp) ?_
    refine AllReadyE.cons (o := { dst := some 40, op := Op.call { callee := .builtin .append, args := #[.tmp 37, .tmp 39], argTypes := #[31, 31] }, type := _, pos := _, after := _, guard := _ }) rfl (fun K hK => ?_) AllReadyE.nil
    refine ParD.step_append_ex rfl (.tmp 37) (.tmp 39) 31 rfl _ _ rfl rfl _ (ap2 hq1 (Below.refl _ _) (hq1.src (cell_new1 _ _ _ _)) hul) ?_
    rintro u2 X7 hq2
    obtain ⟨b2s, c2s, rfl⟩ := hq2.sh
    refine hK.out _ _ (fun _ _ _ => ⟨fun _ => (HGb.out _ (hq2.kT)).1, fun _ => (HGb.out _ (hq2.kT)).2.1, (HGb.out _ (hq2.kT)).2.2⟩) ?_
    clear hK K
    try simp only [Act.put, List.setIfInBounds_toArray, List.set_cons_zero, List.set_cons_succ]
    obtain ⟨y3, y4, yf3, yf4, yl⟩ := HSt.out _ hq2.kT
    refine wpAnyE_take (i := 18) (oi := { dst := some 41, op := Op.nilCheck (.tmp 23), type := _, pos := _, after := _, guard := _ }) (v := .pointer (some ⟨G, 0, none⟩)) rfl (by kernel_rfl) (by kernel_rfl) (by kernel_rfl) (fun _ _ _ h => h) (Or.inl ⟨by rfl, ?_⟩) ⟨fun e => by omega, fun e => by omega, (HGb.out _ hq2.kT).2.2⟩ ?_
    · intro w' hs
      clear hs
      go_simp
    try simp only [Act.put, List.setIfInBounds_toArray, List.set_cons_zero, List.set_cons_succ]
    refine wpAnyE_take (i := 19) (oi := { dst := some 42, op := Op.fieldAddr 69 (.tmp 41) 1, type := _, pos := _, after := _, guard := _ }) (v := .pointer (some ⟨G, 1, none⟩)) rfl (by kernel_rfl) (by kernel_rfl) (by kernel_rfl) (fun _ _ _ h => h) (Or.inl ⟨by rfl, ?_⟩) ⟨fun e => by omega, fun e => by omega, (HGb.out _ hq2.kT).2.2⟩ ?_
    · intro w' hs
      clear hs
      go_simp
    try simp only [Act.put, List.setIfInBounds_toArray, List.set_cons_zero, List.set_cons_succ]
    refine wpAnyE_take (i := 20) (oi := { dst := some 43, op := Op.fieldAddr 33 (.tmp 42) 2, type := _, pos := _, after := _, guard := _ }) (v := .pointer (some ⟨G, 3, none⟩)) rfl (by kernel_rfl) (by kernel_rfl) (by kernel_rfl) (fun _ _ _ h => h) (Or.inl ⟨by rfl, ?_⟩) ⟨fun e => by omega, fun e => by omega, (HGb.out _ hq2.kT).2.2⟩ ?_
    · intro w' hs
      clear hs
      go_simp
    try simp only [Act.put, List.setIfInBounds_toArray, List.set_cons_zero, List.set_cons_succ]
    refine wpAnyE_ready (rs := [21]) (by kernel_rfl) (by simp) ?_
    refine AllReadyE.cons (o := { dst := none, op := Op.store 31 (.tmp 43) (.tmp 32), type := _, pos := _, after := _, guard := _ }) rfl (fun K hK => ?_) AllReadyE.nil
    go_simp
    refine hK.out _ _ (presF (.inl (by kernel_rfl)) (.inl (by kernel_rfl)) (fun h => (HSb.out _ _ _).trans h)) ?_
    clear hK K
    try simp only [Act.put, List.setIfInBounds_toArray, List.set_cons_zero, List.set_cons_succ]
    refine wpAnyE_take (i := 22) (oi := { dst := some 44, op := Op.nilCheck (.tmp 24), type := _, pos := _, after := _, guard := _ }) (v := .pointer (some ⟨G, 0, none⟩)) rfl (by kernel_rfl) (by kernel_rfl) (by kernel_rfl) (fun _ _ _ h => h) (Or.inl ⟨by rfl, ?_⟩) ⟨fun e => by omega, fun e => by omega, (HSb.out _ _ _).trans (HGb.out _ hq2.kT).2.2⟩ ?_
    · intro w' hs
      clear hs
      go_simp
    try simp only [Act.put, List.setIfInBounds_toArray, List.set_cons_zero, List.set_cons_succ]
    refine wpAnyE_take (i := 23) (oi := { dst := some 45, op := Op.fieldAddr 69 (.tmp 44) 1, type := _, pos := _, after := _, guard := _ }) (v := .pointer (some ⟨G, 1, none⟩)) rfl (by kernel_rfl) (by kernel_rfl) (by kernel_rfl) (fun _ _ _ h => h) (Or.inl ⟨by rfl, ?_⟩) ⟨fun e => by omega, fun e => by omega, (HSb.out _ _ _).trans (HGb.out _ hq2.kT).2.2⟩ ?_
    · intro w' hs
      clear hs
      go_simp
    try simp only [Act.put, List.setIfInBounds_toArray, List.set_cons_zero, List.set_cons_succ]
    refine wpAnyE_take (i := 24) (oi := { dst := some 46, op := Op.fieldAddr 33 (.tmp 45) 3, type := _, pos := _, after := _, guard := _ }) (v := .pointer (some ⟨G, 4, none⟩)) rfl (by kernel_rfl) (by kernel_rfl) (by kernel_rfl) (fun _ _ _ h => h) (Or.inl ⟨by rfl, ?_⟩) ⟨fun e => by omega, fun e => by omega, (HSb.out _ _ _).trans (HGb.out _ hq2.kT).2.2⟩ ?_
    · intro w' hs
      clear hs
      go_simp
    try simp only [Act.put, List.setIfInBounds_toArray, List.set_cons_zero, List.set_cons_succ]
    refine wpAnyE_ready (rs := [25]) (by kernel_rfl) (by simp) ?_
    refine AllReadyE.cons (o := { dst := none, op := Op.store 31 (.tmp 46) (.tmp 40), type := _, pos := _, after := _, guard := _ }) rfl (fun K hK => ?_) AllReadyE.nil
    go_simp
    refine hK.out _ _ (presF (.inl (by kernel_rfl)) (.inl (by kernel_rfl)) (fun h => (HSb.out _ _ _).trans h)) ?_
    clear hK K
    try simp only [Act.put, List.setIfInBounds_toArray, List.set_cons_zero, List.set_cons_succ]
    refine wpAnyE_done (by kernel_rfl) ?_ _
    have HE := Lib.hid (HFin.out _ _ _ hq2)
    clear hq1 hq2 y3 y4 yf3 yf4 yl
    go_wp2_with fail
    go_meet
    exact HE
  case rest =>
    have HFu : Hid (Fun2 w0 W G b0 b1 lv (.slice ka x.kids.length kc) l ⟨vars, uses, funcs ++ [(n : Int)], ups ++ [(fn : Int)], counts, blocks, fn, puts⟩ wc.drew) := Lib.hid ⟨hcut.out.f.drew, hcut.out.s.drew, hcut.out.h0.drew, hcut.out.h1.drew⟩
    clear hcut k3 k4 k0 HFin HGb HSt hR0 hfl hul
    obtain ⟨vv, v0, v1, v2, ca, cc, bv, ms, hG, hR⟩ := HFu.out.f.parts3
    simp only at hG hR
    have HGb : Hid (∀ W', KeepsT [3] wc.drew W' → W'.cell? ⟨G, 7, none⟩ = some (.slice ca counts.length cc) ∧ W'.cell? ⟨b0, 0, none⟩ = some (.pointer (some ⟨G, 0, none⟩)) ∧ W'.frozen? ⟨G, 7, none⟩ = false ∧ G < W'.heap.size) := Lib.hid fun W' hk => by
      have g1 := hG.keepsT hk (by decide +kernel)
      exact ⟨g1.cell 7, (HFu.out.h0.keepsT hk (by decide +kernel)).cell 0, g1.frozen 7, g1.lt⟩
    have HPu := Lib.hid ((hR.alloc (.cells #[.int .i64 0] 3)).push3 wc.drew.heap.size 0 (cell_new _ _ _) hlens.2.2)
    have HBs := Lib.hid hR.bel.size
    have HFin : Hid (∀ u X', FRs w0 X' ⟨vars, uses, funcs ++ [(n : Int)], ups ++ [(fn : Int)], counts ++ [0], blocks, fn, puts⟩ vv v0 v1 v2 u bv ms → KeepsT [3] wc.drew X' → Below w0.heap.size wc.drew X' → Fun2 w0 W G b0 b1 lv (.slice ka x.kids.length kc) l ⟨vars, uses, funcs ++ [(n : Int)], ups ++ [(fn : Int)], counts ++ [0], blocks, fn, puts⟩ (X'.setCell ⟨G, 7, none⟩ u)) := Lib.hid fun u X' h1 h2 h3 => fun2_of HFu.out.f.nds HFu.out.f.low hG HFu.out h1 h2 h3
    obtain ⟨k7, k0, -, -⟩ := HGb.out wc.drew (KeepsT.refl _ _)
    clear hG hR
    go_wp2
    go_cut [] (fun wx => Hid (Fun2 w0 W G b0 b1 lv (.slice ka x.kids.length kc) l ⟨vars, uses, funcs ++ [(n : Int)], ups ++ [(fn : Int)], counts ++ [0], blocks, fn, puts⟩ wx))
    case first =>
      refine region_E (S := SG b0 G (.slice ca counts.length cc)) (by kernel_rfl) ?_
      refine wpAnyE_take (i := 0) (oi := { dst := some 47, op := Op.load 64 (.tmp 2), type := _, pos := _, after := _, guard := _ }) (v := .pointer (some ⟨G, 0, none⟩)) rfl (by kernel_rfl) (by kernel_rfl) (by kernel_rfl) (fun _ _ _ h => h) (Or.inl ⟨by rfl, ?_⟩) ⟨fun e => by omega, k0⟩ ?_
      · intro w' hs
        have s0 := hs.2
        go_simp
      try simp only [Act.put, List.setIfInBounds_toArray, List.set_cons_zero, List.set_cons_succ]
      refine wpAnyE_take (i := 1) (oi := { dst := some 48, op := Op.load 64 (.tmp 2), type := _, pos := _, after := _, guard := _ }) (v := .pointer (some ⟨G, 0, none⟩)) rfl (by kernel_rfl) (by kernel_rfl) (by kernel_rfl) (fun _ _ _ h => h) (Or.inl ⟨by rfl, ?_⟩) ⟨fun e => by omega, k0⟩ ?_
      · intro w' hs
        have s0 := hs.2
        go_simp
      try simp only [Act.put, List.setIfInBounds_toArray, List.set_cons_zero, List.set_cons_succ]
      refine wpAnyE_take (i := 2) (oi := { dst := some 49, op := Op.nilCheck (.tmp 48), type := _, pos := _, after := _, guard := _ }) (v := .pointer (some ⟨G, 0, none⟩)) rfl (by kernel_rfl) (by kernel_rfl) (by kernel_rfl) (fun _ _ _ h => h) (Or.inl ⟨by rfl, ?_⟩) ⟨fun e => by omega, k0⟩ ?_
      · intro w' hs
        clear hs
        go_simp
      try simp only [Act.put, List.setIfInBounds_toArray, List.set_cons_zero, List.set_cons_succ]
      refine wpAnyE_take (i := 3) (oi := { dst := some 50, op := Op.fieldAddr 69 (.tmp 49) 4, type := _, pos := _, after := _, guard := _ }) (v := .pointer (some ⟨G, 7, none⟩)) rfl (by kernel_rfl) (by kernel_rfl) (by kernel_rfl) (fun _ _ _ h => h) (Or.inl ⟨by rfl, ?_⟩) ⟨fun e => by omega, k0⟩ ?_
      · intro w' hs
        clear hs
        go_simp
      try simp only [Act.put, List.setIfInBounds_toArray, List.set_cons_zero, List.set_cons_succ]
      refine wpAnyE_take (i := 4) (oi := { dst := some 51, op := Op.load 31 (.tmp 50), type := _, pos := _, after := _, guard := _ }) (v := .slice ca counts.length cc) rfl (by kernel_rfl) (by kernel_rfl) (by kernel_rfl) (fun _ _ _ h => h) (Or.inl ⟨by rfl, ?_⟩) ⟨fun _ => k7, k0⟩ ?_
      · intro w' hs
        have s0 := hs.1 rfl
        go_simp
      try simp only [Act.put, List.setIfInBounds_toArray, List.set_cons_zero, List.set_cons_succ]
      refine wpAnyE_ready (rs := [5]) (by kernel_rfl) (by simp) ?_
      refine AllReadyE.cons (o := { dst := some 52, op := Op.buildSlice 31 1 #[(0, .const (.int .i64 0))], type := _, pos := _, after := _, guard := _ }) rfl (fun K hK => ?_) AllReadyE.nil
      go_simp
      refine hK.out _ _ (fun _ _ _ => ⟨fun _ => (HGb.out _ (KeepsT.alloc (KeepsT.refl _ _) _)).1, (HGb.out _ (KeepsT.alloc (KeepsT.refl _ _) _)).2.1⟩) ?_
      clear hK K
      try simp only [Act.put, List.setIfInBounds_toArray, List.set_cons_zero, List.set_cons_succ]
      refine wpAnyE_ready (rs := [6]) (by kernel_rfl) (by simp) ?_
      refine AllReadyE.cons (o := { dst := some 53, op := Op.call { callee := .builtin .append, args := #[.tmp 51, .tmp 52], argTypes := #[31, 31] }, type := _, pos := _, after := _, guard := _ }) rfl (fun K hK => ?_) AllReadyE.nil
      refine ParD.step_append_ex rfl (.tmp 51) (.tmp 52) 31 rfl _ _ rfl rfl _ HPu.out ?_
      rintro u1 X5 hq1
      obtain ⟨b1s, c1s, rfl⟩ := hq1.2.2.2.2
      refine hK.out _ _ (fun _ _ _ => ⟨fun _ => (HGb.out _ (((KeepsT.refl _ _).alloc _).trans hq1.2.1 (fun _ h => h))).1, (HGb.out _ (((KeepsT.refl _ _).alloc _).trans hq1.2.1 (fun _ h => h))).2.1⟩) ?_
      clear hK K
      try simp only [Act.put, List.setIfInBounds_toArray, List.set_cons_zero, List.set_cons_succ]
      obtain ⟨y7, y0, yf7, yl⟩ := HGb.out _ (((KeepsT.refl _ _).alloc _).trans hq1.2.1 (fun _ h => h))
      refine wpAnyE_take (i := 7) (oi := { dst := some 54, op := Op.nilCheck (.tmp 47), type := _, pos := _, after := _, guard := _ }) (v := .pointer (some ⟨G, 0, none⟩)) rfl (by kernel_rfl) (by kernel_rfl) (by kernel_rfl) (fun _ _ _ h => h) (Or.inl ⟨by rfl, ?_⟩) ⟨fun e => by omega, y0⟩ ?_
      · intro w' hs
        clear hs
        go_simp
      try simp only [Act.put, List.setIfInBounds_toArray, List.set_cons_zero, List.set_cons_succ]
      refine wpAnyE_take (i := 8) (oi := { dst := some 55, op := Op.fieldAddr 69 (.tmp 54) 4, type := _, pos := _, after := _, guard := _ }) (v := .pointer (some ⟨G, 7, none⟩)) rfl (by kernel_rfl) (by kernel_rfl) (by kernel_rfl) (fun _ _ _ h => h) (Or.inl ⟨by rfl, ?_⟩) ⟨fun e => by omega, y0⟩ ?_
      · intro w' hs
        clear hs
        go_simp
      try simp only [Act.put, List.setIfInBounds_toArray, List.set_cons_zero, List.set_cons_succ]
      refine wpAnyE_ready (rs := [9]) (by kernel_rfl) (by simp) ?_
      refine AllReadyE.cons (o := { dst := none, op := Op.store 31 (.tmp 55) (.tmp 53), type := _, pos := _, after := _, guard := _ }) rfl (fun K hK => ?_) AllReadyE.nil
      go_simp
      refine hK.out _ _ (presG (.inl (by kernel_rfl)) (fun h => (HSb.out _ _ _).trans h)) ?_
      clear hK K
      try simp only [Act.put, List.setIfInBounds_toArray, List.set_cons_zero, List.set_cons_succ]
      refine wpAnyE_done (by kernel_rfl) ?_ _
      have HE := Lib.hid (HFin.out _ _ hq1.1 (((KeepsT.refl _ _).alloc _).trans hq1.2.1 (fun _ h => h)) (((Below.refl _ _).alloc HBs.out _).trans hq1.2.2.1))
      clear hq1 y7 y0 yf7 yl
      go_wp2_with fail
      go_meet
      exact HE
    case rest =>
      rename World => wd
      clear HGb HPu HBs HFin k7 k0 HFu
      obtain ⟨vv, v0, fa2, fc2, ua2, uc2, v3, bv, ms, hG, -⟩ := hcut.out.f.parts
      simp only at hG
      have z0 := hcut.out.h0.cell 0
      have z3 := hG.cell 3
      have z6 := hG.cell 6
      have z8 := hG.cell 8
      have f6 := hG.frozen 6
      have f8 := hG.frozen 8
      have zl := hG.lt
      have zb := hcut.out.h0.lt
      simp only [List.getElem?_cons_zero, List.getElem?_cons_succ, List.length_append, List.length_cons, List.length_nil, Nat.zero_add] at z0 z3 z6 z8
      have hfl := hlens.1
      have hw1 : IntKind.i64.wrap ((funcs.length : Int) + 1 - 1) = (funcs.length : Int) := by rw [show (funcs.length : Int) + 1 - 1 = funcs.length by omega]; exact IntWalk.i64_in _ (by omega)
      have hw2 : IntKind.i64.wrap (funcs.length : Int) = (funcs.length : Int) := IntWalk.i64_in _ (by omega)
      have hst := hcut.out.f.setFn funcs.length
      have HE5 : Hid (Fun2 w0 W G b0 b1 lv (.slice ka x.kids.length kc) l ⟨vars, uses, funcs ++ [(n : Int)], ups ++ [(fn : Int)], counts ++ [0], blocks, funcs.length, puts⟩ ((wd.setCell ⟨G, 6, none⟩ (.int .i64 (funcs.length : Int))).setCell ⟨G, 8, none⟩ (.int .i64 0)).drew) := Lib.hid ((hcut.out.next hst.1 hst.2).next hst.1.drew (Fs.refl _ _).drew)
      clear hst hG hcut
      go_wp2
      go_region
      all_goals
        generalize ((wd.setCell ⟨G, 6, none⟩ (.int .i64 (funcs.length : Int))).setCell ⟨G, 8, none⟩ (.int .i64 0)).drew = we at HE5 ⊢
        clear z3 z6 z8 f6 f8 hw1 hw2 z0 zb zl
        obtain ⟨x2, a2, m2, s2, hx2, hk2, hs2, hst2⟩ := fun_some HM.out
        simp only at hs2 hst2 hbl
        have hxx : x2 = x := by rw [hx] at hx2; injection hx2 with hx2; exact hx2.symm
        subst hxx
        have HKk2 : Hid (KidsAt w0 (.slice ka x2.kids.length kc) [a2, (m2 : Int)]) := Lib.hid (by rw [← hk2]; exact HKk.out)
        have hlen2 := hL _ _ _ hs2
        have HWi := Lib.hid (within_f w0 we G b0 b1 lv l _ s2 HE5.out.f (by simp only; omega) (by rw [hlen2]; simp [openP]; omega) (fun W' hf hs => fdo_any w0 W' G b0 b1 lv _ l V hV _ s2 a2 m2 hf (by simp [openP]; omega) (hs.k _ _ _ (by decide +kernel) HE5.out.h0) (hs.k _ _ _ (by decide +kernel) HE5.out.h1) HKk2.out hs2))
        have z0 := HE5.out.h0.cell 0
        have zb := HE5.out.h0.lt
        simp only [List.getElem?_cons_zero] at z0
        clear hk2 hs2 hlen2
        go_wp2_with fail
        refine (HWi.out).mono ?_
        rintro e w6 ⟨rfl, g1, g2⟩
        obtain ⟨vv, v0, fa2, fc2, ua2, uc2, v3, bv, ms, hG, -⟩ := g1.parts
        have y0 := (HE5.out.next g1 g2).h0.cell 0
        have yb := (HE5.out.next g1 g2).h0.lt
        have y6 := hG.cell 6
        have y8 := hG.cell 8
        have f6 := hG.frozen 6
        have f8 := hG.frozen 8
        have yl := hG.lt
        simp only [List.getElem?_cons_zero, List.getElem?_cons_succ] at y0 y6 y8
        have hfin := g1.setFn fn
        have HE7 : Hid (FAt w0 ((w6.setCell ⟨G, 6, none⟩ (.int .i64 (fn : Int))).setCell ⟨G, 8, none⟩ (.int .i64 0)).drew G lv l st' ∧ Fs w0 W ((w6.setCell ⟨G, 6, none⟩ (.int .i64 (fn : Int))).setCell ⟨G, 8, none⟩ (.int .i64 0)).drew) := Lib.hid (by
          rw [hst2]
          exact ⟨hfin.1.drew, ((HE5.out.next g1 g2).s.trans hfin.2).drew⟩)
        clear hfin hG g1 g2 HWi HE5 z0 zb hst2
        go_wp2
        go_region
        all_goals
          go_wp2
          exact bodyPost_ret (v := .tuple #[]) (by simp [results, Tryz.results68, go_sem]) rfl ⟨rfl, HE7.out⟩
end ScD
end Go.Proofs.YtmdkocegnbcgmaaGreatDoor
namespace Go.Proofs.YtmdkocegnbcgmaaGreatDoor
open Go.RowKit ObjM Go.Maps RoundM
namespace ScD
open TreeD (Nd NdsAt KidsAt)
open ParD (Row addrP info_partsP infoIntP)

set_option maxRecDepth 100000 in
set_option maxHeartbeats 8000000 in
theorem vdo_any (w0 W : World) (G b0 b1 : Nat) (lv kv : Value) (l : List Nd) (V : Nat → FSt → Option FSt) (hV : DoesV w0 lv l V) (st s2 : FSt) (kd pos : Int) (tx : ByteArray) (ks : List Int) (h : FAt w0 W G lv l st)
    (h0 : Has W b0 64 [.pointer (some ⟨G, 0, none⟩)]) (h1 : Has W b1 40 [.int .i64 kd, .string tx, kv, .int .i64 pos]) (hk : KidsAt w0 kv ks) (hkl : ks.length ≤ 1000000) (hM : kidsP V ks st = some s2) :
    Calls Tryz.prog 65 #[.pointer (some ⟨b0, 0, none⟩), .pointer (some ⟨b1, 0, none⟩)] W (Did w0 W G lv l s2) := by
  have HK := Lib.hid (kids_any w0 W G lv kv l V hV st s2 kd pos tx ks h hk hkl hM)
  obtain ⟨av, kc, rfl⟩ := hk.shape
  have p0 := h0.cell 0
  have l0 := h0.lt
  have q0 := h1.cell 0
  have q1 := h1.cell 1
  have q2 := h1.cell 2
  have q3 := h1.cell 3
  have l1 := h1.lt
  simp only [List.getElem?_cons_zero, List.getElem?_cons_succ] at p0 q0 q1 q2 q3
  clear h h0 h1 hk hkl hM hV
  go_enter Tryz.func65, Tryz.ntmps65
  go_wp2_with fail
  refine (HK.out).mono ?_
  rintro e w1 ⟨rfl, g1, g2⟩
  have HE := Lib.hid (⟨g1, g2⟩ : _ ∧ _)
  clear g1 g2
  go_wp2_with fail
  exact bodyPost_ret (v := .tuple #[]) (by simp [results, Tryz.results65, go_sem]) rfl ⟨rfl, HE.out⟩
theorem step_some {l : List Nd} {V : Nat → FSt → Option FSt} {n : Nat} {st st' : FSt} (h : stepV l V n st = some st') : ∃ x, l[n]? = some x ∧ st.blocks.length ≤ 1000 ∧
    ((x.kind = 3 ∧ ∃ s, kidsP V x.kids (openP st) = some s ∧ st' = popP s) ∨
     (x.kind = 4 ∧ ∃ a m s, x.kids = [a, ((m : Nat) : Int)] ∧ V m st = some s ∧ addP l n s = some st') ∨
     (x.kind = 5 ∧ ∃ m s, x.kids = [((m : Nat) : Int)] ∧ addP l n st = some s ∧ V m s = some st') ∨
     (x.kind = 22 ∧ funP l V n st = some st') ∨
     (x.kind = 17 ∧ useP l n st = some st') ∨
     ((x.kind ≠ 3 ∧ x.kind ≠ 4 ∧ x.kind ≠ 5 ∧ x.kind ≠ 22 ∧ x.kind ≠ 9 ∧ x.kind ≠ 11 ∧ x.kind ≠ 6 ∧ x.kind ≠ 17) ∧ kidsP V x.kids st = some st')) := by
  unfold stepV at h
  split at h
  · cases h
  · rename_i x hx
    refine ⟨x, hx, ?_⟩
    split at h
    · cases h
    · rename_i hb
      refine ⟨by omega, ?_⟩
      split at h
      · rename_i h3
        rw [Option.map_eq_some_iff] at h
        obtain ⟨s, hs, h⟩ := h
        exact .inl ⟨h3, s, hs, h.symm⟩
      · rename_i h3
        split at h
        · rename_i h4
          split at h
          · rename_i a b hk
            split at h
            · rename_i hb0
              rw [Option.bind_eq_some_iff] at h
              obtain ⟨s, hs, h⟩ := h
              exact .inr (.inl ⟨h4, a, b.toNat, s, by rw [hk]; congr; omega, hs, h⟩)
            · cases h
          · cases h
        · rename_i h4
          split at h
          · rename_i h5
            split at h
            · rename_i a hk
              split at h
              · rename_i ha0
                rw [Option.bind_eq_some_iff] at h
                obtain ⟨s, hs, h⟩ := h
                exact .inr (.inr (.inl ⟨h5, a.toNat, s, by rw [hk]; congr; omega, hs, h⟩))
              · cases h
            · cases h
          · rename_i h5
            split at h
            · rename_i h22
              exact .inr (.inr (.inr (.inl ⟨h22, h⟩)))
            · rename_i h22
              split at h
              · cases h
              · rename_i h9
                simp only [not_or] at h9
                split at h
                · rename_i h17
                  exact .inr (.inr (.inr (.inr (.inl ⟨h17, h⟩))))
                · rename_i h17
                  exact .inr (.inr (.inr (.inr (.inr ⟨⟨h3, h4, h5, h22, h9.1, h9.2.1, h9.2.2, h17⟩, h⟩))))
theorem add_len {l : List Nd} {n : Nat} {s s' : FSt} (h : addP l n s = some s') : s'.blocks.length = s.blocks.length := by
  obtain ⟨x, c, f, -, -, hf, -, -, -, -, -, -, rfl⟩ := add_some h
  have : 0 < s.blocks.length := by
    cases hb : s.blocks with
    | nil => rw [hb] at hf; cases hf
    | cons a t => simp
  simp
  omega
theorem kids_len {V : Nat → FSt → Option FSt} (hL : ∀ n s s', V n s = some s' → s'.blocks.length = s.blocks.length) : ∀ {ks : List Int} {s s' : FSt}, kidsP V ks s = some s' → s'.blocks.length = s.blocks.length
  | [], s, s', h => by
    simp only [kidsP, Option.some.injEq] at h
    rw [h]
  | k :: ks, s, s', h => by
    obtain ⟨n, t, -, h1, h2⟩ := kidsP_cons h
    exact (kids_len hL h2).trans (hL _ _ _ h1)
theorem step_len {l : List Nd} {V : Nat → FSt → Option FSt} (hL : ∀ n s s', V n s = some s' → s'.blocks.length = s.blocks.length) : ∀ n s s', stepV l V n s = some s' → s'.blocks.length = s.blocks.length := by
  intro n s s' h
  obtain ⟨x, hx, hb, hc⟩ := step_some h
  rcases hc with ⟨-, t, ht, rfl⟩ | ⟨-, a, m, t, -, ht, h⟩ | ⟨-, m, t, -, ht, h⟩ | ⟨-, h⟩ | ⟨-, h⟩ | ⟨-, h⟩
  · have := kids_len hL ht
    simp [popP, openP] at this ⊢
    omega
  · exact (add_len h).trans (hL _ _ _ ht)
  · exact (hL _ _ _ h).trans (add_len ht)
  · obtain ⟨x, a, m, t, -, -, ht, rfl⟩ := fun_some h
    have := hL _ _ _ ht
    simp [popP, openP] at this ⊢
    omega
  · obtain ⟨x, v, r, -, -, -, -, -, -, rfl⟩ := use_some h
    rfl
  · exact kids_len hL h
theorem V_len (l : List Nd) : ∀ m n s s', V l m n s = some s' → s'.blocks.length = s.blocks.length
  | 0 => fun _ _ _ h => by cases h
  | m + 1 => step_len (V_len l m)
end ScD
end Go.Proofs.YtmdkocegnbcgmaaGreatDoor
namespace Go.Proofs.YtmdkocegnbcgmaaGreatDoor
open Go.RowKit ObjM Go.Maps RoundM
namespace ScD
open TreeD (Nd NdsAt KidsAt)
open ParD (Row addrP info_partsP infoIntP)

/-- What stands while a node is gone through. -/
structure Vis (w0 W : World) (G b0 b1 : Nat) (lv : Value) (l : List Nd) (st : FSt) (cs : List Value) (wx : World) : Prop where
  f : FAt w0 wx G lv l st
  s : Fs w0 W wx
  h0 : Has wx b0 64 [.pointer (some ⟨G, 0, none⟩)]
  h1 : Has wx b1 40 cs
theorem Vis.next {w0 W wx wy : World} {G b0 b1 : Nat} {lv : Value} {l : List Nd} {st st' : FSt} {cs : List Value} (h : Vis w0 W G b0 b1 lv l st cs wx) (hf : FAt w0 wy G lv l st') (hs : Fs w0 wx wy) : Vis w0 W G b0 b1 lv l st' cs wy :=
  ⟨hf, h.s.trans hs, hs.k _ _ _ (by decide +kernel) h.h0, hs.k _ _ _ (by decide +kernel) h.h1⟩
theorem Vis.drew {w0 W wx : World} {G b0 b1 : Nat} {lv : Value} {l : List Nd} {st : FSt} {cs : List Value} (h : Vis w0 W G b0 b1 lv l st cs wx) : Vis w0 W G b0 b1 lv l st cs wx.drew := h.next h.f.drew (Fs.refl _ _).drew
set_option maxRecDepth 100000 in
set_option maxHeartbeats 32000000 in
theorem visit_any (w0 : World) (lv : Value) (l : List Nd) (hok : ∀ x ∈ l, x.text.size ≤ 140737488355328 ∧ x.kids.length ≤ 1000000) (V : Nat → FSt → Option FSt) (hV : DoesV w0 lv l V) (hL : ∀ n s s', V n s = some s' → s'.blocks.length = s.blocks.length) : DoesV w0 lv l (stepV l V) := by
  intro W G st st' n h hM
  obtain ⟨x, hx, hb, hc⟩ := step_some hM
  have hok1 : ∀ x ∈ l, x.text.size ≤ 140737488355328 := fun x hx => (hok x hx).1
  have hkl := (hok x (List.mem_of_getElem? hx)).2
  obtain ⟨lb, lo, kv, lc, e0, -, ebl, ebG, enl, ⟨ek, et, ekv, ep, -⟩, ekk⟩ := nds_at2 h hx
  obtain ⟨kd, tx, ks, pos⟩ := x
  simp only at ek et ekv ep ekk hkl hc
  obtain ⟨ka, kc, rfl⟩ := ekk.shape
  have HKk := Lib.hid ekk
  have aG : G < W.heap.size := by
    obtain ⟨_, _, _, _, _, _, _, ho⟩ := h.ob
    exact ho.obj.lt
  have hn0 : (0 : Int) ≤ (n : Int) := by omega
  have hmf : ∀ (fn : Fn) (first cap : Array Value) (w : World), (Instr.makeFunc fn first cap).run Tryz.prog w = .ok (.func fn first cap) w := fun _ _ _ _ => rfl
  have HX : Hid (Vis w0 W G W.heap.size (W.heap.size + 1) lv l st [.int .i64 kd, .string tx, .slice ka ks.length kc, .int .i64 pos] ((W.alloc (.cells #[.pointer (some ⟨G, 0, none⟩)] 64)).alloc (.cells #[.int .i64 kd, .string tx, .slice ka ks.length kc, .int .i64 pos] 40))) := Lib.hid (by
    refine ⟨(h.alloc _).alloc _, Fs.below (bl2 W _ _) h.bel.size, (Has.new W 64 [.pointer (some ⟨G, 0, none⟩)]).keeps (Keeps.alloc [] _ (.cells #[.int .i64 kd, .string tx, .slice ka ks.length kc, .int .i64 pos] 40)) (by simp), ?_⟩
    have h9 := Has.new (W.alloc (.cells #[.pointer (some ⟨G, 0, none⟩)] 64)) 40 [.int .i64 kd, .string tx, .slice ka ks.length kc, .int .i64 pos]
    rw [World.size_alloc] at h9
    exact h9)
  have hh0 := HX.out.h0.cell 0
  clear h hM ekk hh0
  rcases hc with hc | hc | hc | hc | hc | hc
  · obtain ⟨rfl, s, hs, rfl⟩ := hc
    have hls := kids_len hL hs
    have HW := Lib.hid (within_v w0 _ G _ _ lv l st s HX.out.f (by omega) (by rw [hls]; simp [openP]; omega) (fun W' hf hs' => vdo_any w0 W' G _ _ lv _ l V hV _ s 3 pos tx ks hf (hs'.k _ _ _ (by decide +kernel) HX.out.h0) (hs'.k _ _ _ (by decide +kernel) HX.out.h1) HKk.out hkl hs))
    clear hs hls hV hL hok
    go_enter Tryz.func37, Tryz.ntmps37
    go_wp2_with fail
    refine (HW.out).mono ?_
    rintro e w1 ⟨rfl, g1, g2⟩
    have HE := Lib.hid (⟨g1, HX.out.s.trans g2⟩ : _ ∧ _)
    clear g1 g2
    go_wp2_with fail
    exact bodyPost_ret (v := .tuple #[]) (by simp [results, Tryz.results37, go_sem]) rfl ⟨rfl, HE.out⟩
  · obtain ⟨rfl, a, m, s2, rfl, hv, ha⟩ := hc
    go_enter Tryz.func37, Tryz.ntmps37
    go_wp2
    have HY := Lib.hid HX.out
    generalize hW2 : (W.alloc (.cells #[.pointer (some ⟨G, 0, none⟩)] 64)).alloc (.cells #[.int .i64 4, .string tx, .slice ka [a, (m : Int)].length kc, .int .i64 pos] 40) = X at HY
    try rw [hW2]
    try (rw [show [a, (m : Int)].length = 2 from rfl] at hW2; rw [hW2])
    clear hW2 HX e0 ebl ebG enl ek et ekv ep aG
    generalize W.heap.size + 1 = b1 at HY ⊢
    generalize W.heap.size = b0 at HY ⊢
    have hkk := HKk.out
    obtain ⟨kb, ko, hav, hkb, hkc⟩ := hkk.at 1 (by simp)
    subst hav
    clear hkk
    have xc : X.cell? ⟨kb, ko + 1, none⟩ = some (.int .i64 (m : Int)) := (HY.out.f.bel.cell (p := ⟨kb, _, none⟩) hkb).trans hkc
    have xl : kb < X.heap.size := Nat.lt_of_lt_of_le hkb HY.out.f.bel.size
    have p0 := HY.out.h0.cell 0
    have l0 := HY.out.h0.lt
    have q2 := HY.out.h1.cell 2
    have l1 := HY.out.h1.lt
    simp only [List.getElem?_cons_zero, List.getElem?_cons_succ] at p0 q2
    have q2 : X.cell? ⟨b1, 2, none⟩ = some (.slice (some ⟨kb, ko, none⟩) 2 kc) := q2
    have HKp : Hid (∀ W', Fs w0 X W' → W'.cell? ⟨b0, 0, none⟩ = some (.pointer (some ⟨G, 0, none⟩)) ∧ W'.cell? ⟨b1, 2, none⟩ = some (.slice (some ⟨kb, ko, none⟩) 2 kc) ∧ W'.cell? ⟨kb, ko + 1, none⟩ = some (.int .i64 (m : Int))) := Lib.hid fun W' hf => ⟨(hf.k b0 _ _ (by decide +kernel) HY.out.h0).cell 0, (hf.k b1 _ _ (by decide +kernel) HY.out.h1).cell 2, (hf.b.cell (p := ⟨kb, _, none⟩) hkb).trans xc⟩
    have HF0 : Hid (Fs w0 X X.drew) := Lib.hid (Fs.refl _ _).drew
    have HVv := Lib.hid (hV X.drew G _ s2 m HY.out.f.drew hv)
    have HAd := Lib.hid (fun W' (hf : FAt w0 W' G lv l s2) => add_any w0 W' G lv l s2 st' n hf hok1 ha)
    clear hV hL hok hv ha
    go_region_held3 (fun W' => W'.cell? ⟨b0, 0, none⟩ = some (.pointer (some ⟨G, 0, none⟩)) ∧ W'.cell? ⟨b1, 2, none⟩ = some (.slice (some ⟨kb, ko, none⟩) 2 kc) ∧ W'.cell? ⟨kb, ko + 1, none⟩ = some (.int .i64 (m : Int)))
      (exact HKp.out _ (by first | exact HF0.out | exact HF1.out))
      (first
        | (go_at_call 37
           refine (HVv.out).mono ?_
           rintro e w3 ⟨rfl, g1, g2⟩
           have HF1 := Lib.hid (HF0.out.trans g2)
           have HZ := Lib.hid (HY.out.next g1 HF1.out)
           clear g1 g2))
    all_goals
      have z0 := HZ.out.h0.cell 0
      have zl := HZ.out.h0.lt
      simp only [List.getElem?_cons_zero] at z0
      go_wp2_with fail
      refine (HAd.out _ HZ.out.f).mono ?_
      rintro e w4 ⟨rfl, g1, g2⟩
      have HE := Lib.hid (⟨g1, HZ.out.s.trans g2⟩ : _ ∧ _)
      clear g1 g2
      go_wp2_with fail
      exact bodyPost_ret (v := .tuple #[]) (by simp [results, Tryz.results37, go_sem]) rfl ⟨rfl, HE.out⟩
  · obtain ⟨rfl, m, s1, rfl, ha, hv⟩ := hc
    have HAd := Lib.hid (add_any w0 _ G lv l st s1 n HX.out.f hok1 ha)
    obtain ⟨s2, hs2⟩ : ∃ s2, st' = s2 := ⟨_, rfl⟩
    rw [hs2] at hv ⊢
    go_enter Tryz.func37, Tryz.ntmps37
    go_wp2_with fail
    refine (HAd.out).mono ?_
    rintro e X ⟨rfl, g1, g2⟩
    have HY := Lib.hid (HX.out.next g1 g2)
    clear g1 g2 HAd HX e0 ebl ebG enl ek et ekv ep aG ha
    have hkk := HKk.out
    obtain ⟨kb, ko, hav, hkb, hkc⟩ := hkk.at 0 (by simp)
    subst hav
    clear hkk
    have xc : X.cell? ⟨kb, ko, none⟩ = some (.int .i64 (m : Int)) := (HY.out.f.bel.cell (p := ⟨kb, _, none⟩) hkb).trans hkc
    have xl : kb < X.heap.size := Nat.lt_of_lt_of_le hkb HY.out.f.bel.size
    have p0 := HY.out.h0.cell 0
    have l0 := HY.out.h0.lt
    have q2 := HY.out.h1.cell 2
    have l1 := HY.out.h1.lt
    simp only [List.getElem?_cons_zero, List.getElem?_cons_succ] at p0 q2
    have q2 : X.cell? ⟨W.heap.size + 1, 2, none⟩ = some (.slice (some ⟨kb, ko, none⟩) 1 kc) := q2
    generalize W.heap.size + 1 = b1 at HY q2 l1 ⊢
    generalize W.heap.size = b0 at HY p0 l0 ⊢
    have HKp : Hid (∀ W', Fs w0 X W' → W'.cell? ⟨b0, 0, none⟩ = some (.pointer (some ⟨G, 0, none⟩)) ∧ W'.cell? ⟨b1, 2, none⟩ = some (.slice (some ⟨kb, ko, none⟩) 1 kc) ∧ W'.cell? ⟨kb, ko, none⟩ = some (.int .i64 (m : Int))) := Lib.hid fun W' hf => ⟨(hf.k b0 _ _ (by decide +kernel) HY.out.h0).cell 0, (hf.k b1 _ _ (by decide +kernel) HY.out.h1).cell 2, (hf.b.cell (p := ⟨kb, _, none⟩) hkb).trans xc⟩
    have HF0 : Hid (Fs w0 X X.drew) := Lib.hid (Fs.refl _ _).drew
    have HVv := Lib.hid (hV X.drew G _ s2 m HY.out.f.drew hv)
    clear hV hL hok hv
    go_wp2
    go_region_held3 (fun W' => W'.cell? ⟨b0, 0, none⟩ = some (.pointer (some ⟨G, 0, none⟩)) ∧ W'.cell? ⟨b1, 2, none⟩ = some (.slice (some ⟨kb, ko, none⟩) 1 kc) ∧ W'.cell? ⟨kb, ko, none⟩ = some (.int .i64 (m : Int)))
      (exact HKp.out _ (by first | exact HF0.out | exact HF1.out))
      (first
        | (go_at_call 37
           refine (HVv.out).mono ?_
           rintro e w3 ⟨rfl, g1, g2⟩
           have HF1 := Lib.hid (HF0.out.trans g2)
           have HZ := Lib.hid (HY.out.next g1 HF1.out)
           clear g1 g2))
    all_goals
      have HE := Lib.hid (⟨HZ.out.f, HZ.out.s⟩ : _ ∧ _)
      go_wp2_with fail
      exact bodyPost_ret (v := .tuple #[]) (by simp [results, Tryz.results37, go_sem]) rfl ⟨rfl, HE.out⟩
  · obtain ⟨rfl, hf⟩ := hc
    have HW := Lib.hid (function_any w0 _ G lv l V hV hL st st' n HX.out.f hb hf)
    clear hf hV hL hok
    go_enter Tryz.func37, Tryz.ntmps37
    go_wp2_with fail
    refine (HW.out).mono ?_
    rintro e w1 ⟨rfl, g1, g2⟩
    have HE := Lib.hid (⟨g1, HX.out.s.trans g2⟩ : _ ∧ _)
    clear g1 g2
    go_wp2_with fail
    exact bodyPost_ret (v := .tuple #[]) (by simp [results, Tryz.results37, go_sem]) rfl ⟨rfl, HE.out⟩
  · obtain ⟨rfl, hu⟩ := hc
    have HW := Lib.hid (use_any w0 _ G lv l st st' n HX.out.f hok1 hu)
    clear hu hV hL hok
    go_enter Tryz.func37, Tryz.ntmps37
    go_wp2_with fail
    refine (HW.out).mono ?_
    rintro e w1 ⟨rfl, g1, g2⟩
    have HE := Lib.hid (⟨g1, HX.out.s.trans g2⟩ : _ ∧ _)
    clear g1 g2
    go_wp2_with fail
    exact bodyPost_ret (v := .tuple #[]) (by simp [results, Tryz.results37, go_sem]) rfl ⟨rfl, HE.out⟩
  · obtain ⟨⟨k3, k4, k5, k22, k9, k11, k6, k17⟩, hk⟩ := hc
    have e3 : (kd == 3) = false := by simpa using k3
    have e4 : (kd == 4) = false := by simpa using k4
    have e5 : (kd == 5) = false := by simpa using k5
    have e22 : (kd == 22) = false := by simpa using k22
    have e9 : (kd == 9) = false := by simpa using k9
    have e11 : (kd == 11) = false := by simpa using k11
    have e6 : (kd == 6) = false := by simpa using k6
    have e17 : (kd == 17) = false := by simpa using k17
    have HW := Lib.hid (kids_any w0 _ G lv _ l V hV st st' kd pos tx ks HX.out.f HKk.out hkl hk)
    clear hk hV hL hok k3 k4 k5 k22 k9 k11 k6 k17
    go_enter Tryz.func37, Tryz.ntmps37
    go_wp2_with fail
    refine (HW.out).mono ?_
    rintro e w1 ⟨rfl, g1, g2⟩
    have HE := Lib.hid (⟨g1, HX.out.s.trans g2⟩ : _ ∧ _)
    clear g1 g2
    go_wp2_with fail
    exact bodyPost_ret (v := .tuple #[]) (by simp [results, Tryz.results37, go_sem]) rfl ⟨rfl, HE.out⟩
theorem all_visit (w0 : World) (lv : Value) (l : List Nd) (hok : ∀ x ∈ l, x.text.size ≤ 140737488355328 ∧ x.kids.length ≤ 1000000) : ∀ m, DoesV w0 lv l (V l m)
  | 0 => fun _ _ _ _ _ _ hM => nomatch hM
  | m + 1 => visit_any w0 lv l hok (V l m) (all_visit w0 lv l hok m) (V_len l m)
end ScD
end Go.Proofs.YtmdkocegnbcgmaaGreatDoor
namespace Go.Proofs.YtmdkocegnbcgmaaGreatDoor
open Go.RowKit ObjM Go.Maps RoundM
namespace ScD
open TreeD (Nd NdsAt KidsAt)
open ParD (Row addrP info_partsP infoIntP)

/-- A new finder, its uses laid out as far as k. -/
structure NewS (w wl : World) (lv : Value) (m k : Nat) : Prop where
  hc : Has wl w.heap.size 3 [.int .i64 0]
  hG : Has wl (w.heap.size + 1) 69 [lv, .slice none 0 0, .slice (some ⟨w.heap.size + 1 + 1, 0, none⟩) m m, .slice none 0 0, .slice none 0 0, .slice none 0 0, .int .i64 0, .slice (some ⟨w.heap.size, 0, none⟩) 1 1, .int .i64 0]
  hu : Row wl w.heap.size (.slice (some ⟨w.heap.size + 1 + 1, 0, none⟩) m m) (List.replicate k (-1) ++ List.replicate (m - k) 0)
  b : Below w.heap.size w wl
theorem rep_set {m k : Nat} (hk : k < m) : (List.replicate k (-1 : Int) ++ List.replicate (m - k) 0).set k (-1) = List.replicate (k + 1) (-1) ++ List.replicate (m - (k + 1)) 0 := by
  rw [List.set_append_right _ _ (by simp), List.length_replicate, Nat.sub_self, show m - k = (m - (k + 1)) + 1 by omega, List.replicate_succ, List.set_cons_zero, List.replicate_succ']
  simp
theorem NewS.next {w wl : World} {lv : Value} {m k : Nat} (h : NewS w wl lv m k) (hk : k < m) : (∃ u, wl.cell? ⟨w.heap.size + 1 + 1, k, none⟩ = some u) ∧ wl.frozen? ⟨w.heap.size + 1 + 1, k, none⟩ = false ∧ w.heap.size + 1 + 1 < wl.heap.size ∧ NewS w (wl.setCell ⟨w.heap.size + 1 + 1, k, none⟩ (.int .i64 (-1))) lv m (k + 1) := by
  have hlen : (List.replicate k (-1 : Int) ++ List.replicate (m - k) 0).length = m := by simp; omega
  obtain ⟨g, c, e, hB, ⟨cs, hh⟩, hc, hi⟩ := row_get (i := k) h.hu (List.getElem?_eq_getElem (by omega))
  injection e with e
  injection e with e
  injection e with e
  subst e
  have K := Keeps.set wl (w.heap.size + 1 + 1) k (.int .i64 (-1))
  refine ⟨⟨_, hc⟩, hh.frozen k, hh.lt, ⟨h.hc.keeps K (by simp; omega), h.hG.keeps K (by simp), ?_, h.b.trans (K.toBelow _ h.b.size (by simp; omega))⟩⟩
  have := Row.set h.hu k hi (-1)
  rw [rep_set hk] at this
  exact this
/-- A row of one number that was just made. -/
theorem row_one {w : World} {B g : Nat} {z : Int} (hB : B ≤ g) (h : Has w g 3 [.int .i64 z]) : Row w B (.slice (some ⟨g, 0, none⟩) 1 1) [z] := by
  unfold Row
  exact own_of hB h (Nat.le_refl _) (by unfold maxLen; omega) rfl rfl
theorem NewS.done {w wr : World} {lv : Value} {m : Nat} {l : List Nd} (h : NewS w wr lv m m) (hn : NdsAt w lv l) (hm : l.length = m) :
    FAt w ((((wr.setCell ⟨w.heap.size + 1, 3, none⟩ (.slice (some ⟨wr.heap.size, 0, none⟩) 1 1)).setCell ⟨w.heap.size + 1, 4, none⟩ (.slice (some ⟨wr.heap.size + 1, 0, none⟩) 1 1)).alloc (.cells #[.int .i64 (-1)] 3)).alloc (.cells #[.int .i64 (-1)] 3)) (w.heap.size + 1) lv l (startP l) := by
  have hG := (h.hG.set 3 (.slice (some ⟨wr.heap.size, 0, none⟩) 1 1)).set 4 (.slice (some ⟨wr.heap.size + 1, 0, none⟩) 1 1)
  have K1 := (Keeps.set wr (w.heap.size + 1) 3 (.slice (some ⟨wr.heap.size, 0, none⟩) 1 1)).trans (Keeps.set _ (w.heap.size + 1) 4 (.slice (some ⟨wr.heap.size + 1, 0, none⟩) 1 1)) (fun x hx => .inl hx)
  have hlt := h.hG.lt
  have hsz : ((wr.setCell ⟨w.heap.size + 1, 3, none⟩ (.slice (some ⟨wr.heap.size, 0, none⟩) 1 1)).setCell ⟨w.heap.size + 1, 4, none⟩ (.slice (some ⟨wr.heap.size + 1, 0, none⟩) 1 1)).heap.size = wr.heap.size := by simp
  generalize (wr.setCell ⟨w.heap.size + 1, 3, none⟩ (.slice (some ⟨wr.heap.size, 0, none⟩) 1 1)).setCell ⟨w.heap.size + 1, 4, none⟩ (.slice (some ⟨wr.heap.size + 1, 0, none⟩) 1 1) = W at hG K1 hsz ⊢
  have Ka := Keeps.alloc [] W (.cells #[.int .i64 (-1)] 3)
  have Kb := Keeps.alloc [] (W.alloc (.cells #[.int .i64 (-1)] 3)) (.cells #[.int .i64 (-1)] 3)
  have n1 := (Has.new W 3 [.int .i64 (-1)]).keeps Kb (by simp)
  have n2 := Has.new (W.alloc (.cells #[.int .i64 (-1)] 3)) 3 [.int .i64 (-1)]
  rw [World.size_alloc] at n2
  rw [hsz] at n1 n2
  have K2 := (K1.trans Ka (by simp)).trans Kb (by simp)
  generalize (W.alloc (.cells #[.int .i64 (-1)] 3)).alloc (.cells #[.int .i64 (-1)] 3) = W2 at Kb n1 n2 K2 ⊢
  have hG2 := (hG.keeps Ka (by simp)).keeps Kb (by simp)
  have hu := own_keeps h.hu K2 (fun g hg => by
    injection hg with hg
    simp only at hg
    simp
    omega)
  have hc := h.hc.keeps K2 (by simp)
  refine ⟨hn, h.b.trans (K2.toBelow _ h.b.size (by simp)), by omega, .slice none 0 0, .slice (some ⟨w.heap.size + 1 + 1, 0, none⟩) m m, .slice (some ⟨wr.heap.size, 0, none⟩) 1 1, .slice (some ⟨wr.heap.size + 1, 0, none⟩) 1 1, .slice (some ⟨w.heap.size, 0, none⟩) 1 1, .slice none 0 0, [], ?_⟩
  have hd : ∀ (a b n c n' c' : Nat), a ≠ b → ∀ g, (Value.slice (some ⟨a, 0, none⟩) n c).ownBlock = some g → (Value.slice (some ⟨b, 0, none⟩) n' c').ownBlock ≠ some g := by
    intro a b n c n' c' hab g h1 h2
    injection h1 with h1
    injection h2 with h2
    exact hab (h1.trans h2.symm)
  have hul : w.heap.size + 1 + 1 < wr.heap.size := by
    have h9 := h.hu
    unfold Row at h9
    rcases own_shape h9 with ⟨e, -, -⟩ | ⟨g', cap, cs, e, -, hh, -⟩
    · cases e
    · injection e with e
      injection e with e
      injection e with e
      have := hh.lt
      omega
  refine ⟨hG2, World.ownsRow_nil _ _ _ _, ?_, row_one (by omega) n1, row_one (by omega) n2, row_one (Nat.le_refl _) hc, hd _ _ _ _ _ _ (by omega), hd _ _ _ _ _ _ (by omega), hd _ _ _ _ _ _ (by omega), hd _ _ _ _ _ _ (by omega), hd _ _ _ _ _ _ (by omega), hd _ _ _ _ _ _ (by omega), World.ownsRow_nil _ _ _ _, rfl, by simp [startP], List.nodup_nil⟩
  unfold Row at hu ⊢
  simpa [startP, hm] using hu
/-- What a new finder is. -/
def NewIs (w : World) (lv : Value) (l : List Nd) (e : Ending) (w' : World) : Prop := ∃ G, e = .returned (.pointer (some ⟨G, 0, none⟩)) ∧ FAt w w' G lv l (startP l)
set_option maxRecDepth 100000 in
set_option maxHeartbeats 8000000 in
theorem new_any (w : World) (lv : Value) (l : List Nd) (hn : NdsAt w lv l) (hl : l.length ≤ 1000000) :
    Calls Tryz.prog 36 #[lv] w (NewIs w lv l) := by
  obtain ⟨av, cv, rfl⟩ := hn.shape
  obtain ⟨i0, hi, hz0, hz1, hz2⟩ := info_partsP infoIntP
  obtain ⟨m, hm⟩ : ∃ m, l.length = m := ⟨_, rfl⟩
  have HN : Hid (NdsAt w (.slice av m cv) l) := Lib.hid (by rw [hm] at hn; exact hn)
  have HM := Lib.hid hm
  rw [hm] at hl
  go_enter Tryz.func36, Tryz.ntmps36
  rw [hm]
  clear hn hm
  go_wp2_with (at_make; refine wpList_make_full _ rfl _ _ 31 rfl (w.heap.size + 1 + 1) 3 i0 (.int .i64 0) 1 Tryz.underlying31 hi hz0 hz1 .i64 .i64 (m : Int) (m : Int) m rfl rfl rfl rfl ?c1 ?c2 ?c3 ?_)
  case c1 => rw [hz2]; omega
  case c2 => unfold maxLen; omega
  case c3 => simp
  intro w1 hrow hgrow
  have H0 : Hid (∀ v, v = Value.slice (some ⟨w.heap.size + 1 + 1, 0, none⟩) m m → NewS w (w1.setCell ⟨w.heap.size + 1, 2, none⟩ v) (.slice av m cv) m 0 ∧ w1.cell? ⟨w.heap.size + 1, 2, none⟩ = some (.slice none 0 0) ∧ w1.frozen? ⟨w.heap.size + 1, 2, none⟩ = false ∧ w.heap.size + 1 < w1.heap.size) := Lib.hid (by
    rintro v rfl
    have KG : Keeps [] _ w1 := Keeps.grown hgrow
    have h1 := ((Has.new w 3 [.int .i64 0]).keeps (Keeps.alloc [] _ (.cells #[.slice av m cv, .slice none 0 0, .slice none 0 0, .slice none 0 0, .slice none 0 0, .slice none 0 0, .int .i64 0, .slice (some ⟨w.heap.size, 0, none⟩) 1 1, .int .i64 0] 69)) (by simp)).keeps KG (by simp)
    have h2 := Has.new (w.alloc (.cells #[.int .i64 0] 3)) 69 [.slice av m cv, .slice none 0 0, .slice none 0 0, .slice none 0 0, .slice none 0 0, .slice none 0 0, .int .i64 0, .slice (some ⟨w.heap.size, 0, none⟩) 1 1, .int .i64 0]
    rw [World.size_alloc] at h2
    have h3 := h2.keeps KG (by simp)
    have KS := Keeps.set w1 (w.heap.size + 1) 2 (.slice (some ⟨w.heap.size + 1 + 1, 0, none⟩) m m)
    have hb : Below w.heap.size w w1 := (bl2 w _ _).trans (KG.toBelow _ (by simp; omega) (by simp))
    refine ⟨⟨h1.keeps KS (by simp), h3.set 2 _, ?_, hb.trans (KS.toBelow _ hb.size (by simp))⟩, h3.cell 2, h3.frozen 2, h3.lt⟩
    have h9 : (madeCells #[Value.int .i64 0] m).toList = List.replicate m (.int .i64 0) := toList_madeCells_one _ _
    rw [h9] at hrow
    have hr := own_keeps (own_base hrow (show w.heap.size ≤ w.heap.size + 1 + 1 by omega)) KS (fun g hg => by
      injection hg with hg
      simp only at hg
      simp
      omega)
    unfold Row
    simp only [List.replicate_zero, List.nil_append, Nat.sub_zero, List.length_replicate, List.map_replicate]
    exact hr)
  obtain ⟨-, c2, cf, cl⟩ := H0.out _ rfl
  clear hrow hgrow hi hz0 hz1 hz2
  go_wp2_with fail
  have HS0 := Lib.hid (H0.out _ rfl).1
  generalize w1.setCell ⟨w.heap.size + 1, 2, none⟩ (.slice (some ⟨w.heap.size + 1 + 1, 0, none⟩) m m) = W2 at HS0 ⊢
  clear c2 cf cl H0
  go_loopw [18] (fun i wl => ∃ (k : Nat), i = .int .i64 (k : Int) ∧ k ≤ m ∧ Hid (NewS w wl (.slice av m cv) m k)) (fun i _ => m - (intOf i).toNat)
  case atStart => exact ⟨0, rfl, Nat.zero_le _, HS0⟩
  case round =>
    obtain ⟨k, rfl, hk, HS⟩ := hrel
    clear HS0
    by_cases hlt : k < m
    · have hi1 : (k : Int) < (m : Int) := by omega
      have hi0 : (0 : Int) ≤ (k : Int) := by omega
      obtain ⟨⟨u, y1⟩, y2, y3, y4⟩ := HS.out.next hlt
      have z2 := HS.out.hG.cell 2
      have zl := HS.out.hG.lt
      simp only [List.getElem?_cons_zero, List.getElem?_cons_succ] at z2
      have HE := Lib.hid y4
      clear y4
      go_wp2_with fail
      go_roundw
      case rel => exact ⟨k + 1, by go_num, by omega, HE⟩
      case measure => simp [intOf]; omega
    · have hkm : k = m := by omega
      subst hkm
      have zl := HS.out.hG.lt
      have zl3 : w.heap.size < wr.heap.size := by omega
      have z3 := HS.out.hG.cell 3
      have z4 := HS.out.hG.cell 4
      have f3 := HS.out.hG.frozen 3
      have f4 := HS.out.hG.frozen 4
      simp only [List.getElem?_cons_zero, List.getElem?_cons_succ] at z3 z4
      go_wp2_with fail
      have HF := HS.out.done HN.out HM.out
      go_ret
      exact ⟨_, rfl, HF⟩
end ScD
end Go.Proofs.YtmdkocegnbcgmaaGreatDoor
