/- The document's stamps with one more. -/
import Derived.Test.YtpmbbkhhnkhcbaaTab27
import Derived.Laws.AppendOwnNone
namespace Go.Proofs.Ytpmbbkhhnkhcbaa
open Go.RowKit ObjM Go.Maps
namespace TabD
open LabelM LabelD ValD

theorem wpList_append_run {P : Program} {ops : Array Oper} {o : Oper} {rest : List Oper} {a : Act} {w : World} {Q : Exit → Act → World → Prop} (hw : Region.wanted o (yielded ops a.tmps) = true)
    (s x : Operand) (t : TypeId) (hop : o.op = Op.call { callee := Callee.builtin Builtin.append, args := #[s, x], argTypes := #[t, t] }) (v' : Value) (w' : World) (v u : Value) (hs : a.eval s = v) (hx : a.eval x = u)
    (hrun : (Builtin.append_ #[t, t] o.type #[v, u]).run P w = .ok v' w') (hK : wpList P ops Q rest (a.put o.dst v') w') : wpList P ops Q (o :: rest) a w := by
  unfold wpList
  rw [if_pos hw]
  refine .inl ?_
  subst hs hx
  unfold Oper.wp
  simp [execOp, hop, resolve, invoke, builtin, hrun, Result.andThen]
  exact hK
/-- A row copied into new memory. -/
theorem copy_run {P : Program} {t e : TypeId} {i : TypeInfo} {z : Value} {size bytes : Nat} (ht : P.underlying t = some (.slice e)) (hi : P.info? e = some i) (hz : i.zero = some z) (hsize : i.size = size) (hby : i.bytes = bytes) (hzs : z.cells.size = size) (hsz : 0 < size) (hbb : bytes ≤ 1000)
    {W : World} {B : Nat} {sv : Value} {n : Nat} {xs : List Value} (h : W.ownsRow B e size sv n xs) (h1 : ∀ u ∈ xs, u.oneCell' = true) (hn : n ≤ 1000000) (base : Nat) (hb : base ≤ W.heap.size) (ty : TypeId) :
    ∃ v2 w2, (Builtin.append_ #[t, t] ty #[.slice none 0 0, sv]).run P W = .ok v2 w2 ∧ w2.ownsRow base e size v2 n xs ∧ W.grownBy w2 none ∧ (∀ x, v2.ownBlock = some x → W.heap.size ≤ x) := by
  rcases own_shape h with ⟨rfl, rfl, rfl⟩ | ⟨g, cap, cs, rfl, hBg, hh, hnc, hcm, hcl, htk⟩
  · exact ⟨_, _, run_append_owned_none (P := P) (w := W) base t ty e i size ht hi (.slice none 0 0) 0 [] (World.ownsRow_nil _ _ _ _), World.ownsRow_nil _ _ _ _, ⟨rfl, rfl, rfl, Nat.le_refl _, fun _ _ _ => rfl⟩, by simp [Value.ownBlock]⟩
  · obtain ⟨v2, w2, hrun, ho, hg, -, hob⟩ := run_append_own_at (P := P) (w := W) base t ty e i z size bytes ht hi hz hsize hby hzs hsz (.slice none 0 0) 0 [] (World.ownsRow_nil _ _ _ _) ⟨g, 0, none⟩ n cap xs h.1 (fun j u hj => by
      have hlt := (List.getElem?_eq_some_iff.1 hj).1
      rw [addr_at, Nat.zero_add, own_cell h j hlt]
      exact (List.getElem?_eq_getElem hlt).symm.trans hj) h1 (by unfold maxLen; omega) (by
        have : (0 + n) * bytes ≤ 1000000 * 1000 := Nat.mul_le_mul (by omega) hbb
        omega) hb
    refine ⟨v2, w2, hrun, by simpa using ho, by simpa [Value.ownBlock] using hg, fun x hx => ?_⟩
    rcases hob with h9 | h9
    · rw [h9] at hx
      simp [Value.ownBlock] at hx
    · rw [h9] at hx
      simp at hx
      omega
theorem rowS_one (ss : List St) : ∀ u ∈ rowS ss, u.oneCell' = true := by
  intro u hu
  obtain ⟨s, _, hs⟩ := List.mem_flatMap.1 hu
  rcases List.mem_cons.1 hs with rfl | hs
  · rfl
  · rcases List.mem_cons.1 hs with rfl | hs
    · rfl
    · simp at hs
theorem copy_st {W : World} {B : Nat} {sv : Value} {ss : List St} (h : W.ownsRow B 44 2 sv ss.length (rowS ss)) (hn : ss.length ≤ 1000000) (base : Nat) (hb : base ≤ W.heap.size) (ty : TypeId) :
    ∃ v2 w2, (Builtin.append_ #[31, 31] ty #[.slice none 0 0, sv]).run Try.prog W = .ok v2 w2 ∧ w2.ownsRow base 44 2 v2 ss.length (rowS ss) ∧ W.grownBy w2 none ∧ (∀ x, v2.ownBlock = some x → W.heap.size ≤ x) := by
  obtain ⟨i0, hi, hz0, hz1, hz2⟩ := info_parts infoSt
  exact copy_run Try.underlying31 hi hz0 hz1 hz2 rfl (by decide) (by decide) h (rowS_one ss) hn base hb ty
def withF (ss : List St) (s : St) : List St := match nameAt ss (key8 s.1) with | some n => ss.modify n (fun e => (e.1, andI e.2 s.2)) | none => ss ++ [s]
theorem withF_at {ss : List St} {s e : St} {n : Nat} (he : ss[n]? = some e) (hk : key8 e.1 = key8 s.1) (hb : ∀ (j : Nat) (x : St), j < n → ss[j]? = some x → ¬ key8 x.1 = key8 s.1) : withF ss s = ss.set n (e.1, andI e.2 s.2) := by
  have : nameAt ss (key8 s.1) = some n := by
    unfold nameAt
    rw [List.findIdx?_eq_some_iff_getElem]
    obtain ⟨hn, rfl⟩ := List.getElem?_eq_some_iff.1 he
    exact ⟨hn, by simp [hk], fun j hj => by simpa using hb j _ hj (List.getElem?_eq_getElem (by omega))⟩
  unfold withF
  rw [this]
  exact modify_set ss n e he _
theorem withF_none {ss : List St} {s : St} (hb : ∀ (j : Nat) (x : St), j < ss.length → ss[j]? = some x → ¬ key8 x.1 = key8 s.1) : withF ss s = ss ++ [s] := by
  have : nameAt ss (key8 s.1) = none := by
    unfold nameAt
    rw [List.findIdx?_eq_none_iff]
    intro x hx
    obtain ⟨j, hj⟩ := List.getElem?_of_mem hx
    simpa using hb j x (List.getElem?_eq_some_iff.1 hj).1 hj
  unfold withF
  rw [this]
def WithIs (w : World) (c : List St) (e : Ending) (w' : World) : Prop := ∃ v', e = .returned v' ∧ w'.ownsRow w.heap.size 44 2 v' c.length (rowS c) ∧ Below w.heap.size w w'
set_option maxRecDepth 100000 in
set_option maxHeartbeats 4000000 in
theorem with_st (B : Nat) (sv : Value) (ss : List St) (s : St) (w : World) (h : w.ownsRow B 44 2 sv ss.length (rowS ss)) (hn : ss.length < 1000000) :
    Calls Try.prog 47 #[sv, .agg #[.string s.1, .int .i64 s.2]] w (WithIs w (withF ss s)) := by
  obtain ⟨i0, hi, hz0, hz1, hz2⟩ := info_parts infoSt
  have hA : Hid (∀ (n : Nat) (e : St), ss[n]? = some e → key8 e.1 = key8 s.1 → (∀ (j : Nat) (x : St), j < n → ss[j]? = some x → ¬ key8 x.1 = key8 s.1) → withF ss s = ss.set n (e.1, andI e.2 s.2)) := Lib.hid fun n e h1 h2 h3 => withF_at h1 h2 h3
  have hZ : Hid ((∀ (j : Nat) (x : St), j < ss.length → ss[j]? = some x → ¬ key8 x.1 = key8 s.1) → withF ss s = ss ++ [s]) := Lib.hid fun h1 => withF_none h1
  obtain ⟨c, hc⟩ : ∃ c, withF ss s = c := ⟨_, rfl⟩
  rw [hc] at hA hZ ⊢
  clear hc
  have HX := Lib.hid (Has.new w 44 [.string s.1, .int .i64 s.2])
  have HB := Lib.hid ((Below.refl w.heap.size w).alloc (Nat.le_refl _) (.cells #[.string s.1, .int .i64 s.2] 44))
  obtain ⟨v2, w2, hrun2, hown2, hgrow2, -⟩ := copy_st (h.alloc (.cells #[.string s.1, .int .i64 s.2] 44)) (by omega) w.heap.size (by simp) 31
  have HR2 := Lib.hid hrun2
  have HS0 : Hid (w2.ownsRow w.heap.size 44 2 v2 ss.length (rowS ss) ∧ Has w2 w.heap.size 44 [.string s.1, .int .i64 s.2] ∧ Below w.heap.size w w2) := Lib.hid ⟨hown2, HX.out.keeps (Keeps.grown hgrow2) (by simp), HB.out.grown hgrow2 HB.out.size (by simp)⟩
  obtain ⟨a2, cap2, rfl⟩ := own_slice hown2
  clear h hrun2 hown2 hgrow2
  go_enter Try.func47, Try.ntmps47
  go_wp2_with (at_builtin; refine wpList_append_run (by rfl) (.const (.slice none 0 0)) (.tmp 7) 31 rfl _ _ _ _ rfl rfl HR2.out ?_)
  go_loopw [11] (fun i wr => ∃ k : Nat, i = .int .i64 k ∧ k ≤ ss.length ∧ Hid (∀ (j : Nat) (x : St), j < k → ss[j]? = some x → ¬ key8 x.1 = key8 s.1) ∧ Hid (wr.ownsRow w.heap.size 44 2 (.slice a2 ss.length cap2) ss.length (rowS ss) ∧ Has wr w.heap.size 44 [.string s.1, .int .i64 s.2] ∧ Below w.heap.size w wr)) (fun i _ => ss.length - (intOf i).toNat)
  case atStart => exact ⟨0, rfl, Nat.zero_le _, Lib.hid (fun j x hj => by omega), HS0⟩
  case round =>
    obtain ⟨k, rfl, hk, HF, HS⟩ := hrel
    have x0 := HS.out.2.1.cell 0
    have x1 := HS.out.2.1.cell 1
    have lx := HS.out.2.1.lt
    simp only [List.getElem?_cons_zero, List.getElem?_cons_succ] at x0 x1
    by_cases hlt : k < ss.length
    · obtain ⟨e, hek⟩ : ∃ s, ss[k]? = some s := ⟨_, List.getElem?_eq_getElem hlt⟩
      obtain ⟨g, rfl, hgl, g0, g1, hgf⟩ : ∃ g, a2 = some ⟨g, 0, none⟩ ∧ g < wr.heap.size ∧ wr.cell? ⟨g, k * 2, none⟩ = some (.string e.1) ∧ wr.cell? ⟨g, k * 2 + 1, none⟩ = some (.int .i64 e.2) ∧ wr.frozen? ⟨g, k * 2 + 1, none⟩ = false := by
        have hO := HS.out.1
        rcases own_shape hO with ⟨_, h9, _⟩ | ⟨g, cap, cs, hsv, _, hh, _⟩
        · omega
        · have hav : a2 = some ⟨g, 0, none⟩ := by injection hsv
          rw [hsv] at hO
          obtain ⟨q0, q1⟩ := rowS_at ss k e hek
          obtain ⟨hj0, hv0⟩ := List.getElem?_eq_some_iff.1 q0
          obtain ⟨hj1, hv1⟩ := List.getElem?_eq_some_iff.1 q1
          exact ⟨g, hav, hh.lt, by rw [own_cell hO _ hj0, hv0], by rw [own_cell hO _ hj1, hv1], hh.frozen _⟩
      have HSK := Lib.hid hek
      clear hek
      have hi1 : (k : Int) < (ss.length : Int) := by omega
      have hi0 : (0 : Int) ≤ (k : Int) := by omega
      have hqc : (e.1.toList == s.1.toList) = true ∨ (e.1.toList == s.1.toList) = false := by cases (e.1.toList == s.1.toList) <;> simp
      rcases hqc with hq | hq
      · have HC := hA.out k e HSK.out (key8_of (by simpa using hq)) HF.out
        subst HC
        obtain ⟨y, hy⟩ : ∃ y, andI e.2 s.2 = y := ⟨_, rfl⟩
        have hyb : bits BinOp.and IntKind.i64 e.2 s.2 = y := hy
        rw [hy]
        clear hy
        go_wp2
        go_quiet (fail)
        have hO3 : (wr.drewN nq).ownsRow w.heap.size 44 2 (.slice (some ⟨g, 0, none⟩) ss.length cap2) ss.length (rowS ss) := own_keeps HS.out.1 (Keeps.drewN [] wr nq) (by simp)
        have hB3 : Below w.heap.size w (wr.drewN nq) := below_drewN HS.out.2.2 nq
        have x1' : (wr.drewN nq).cell? ⟨w.heap.size, 1, none⟩ = _ := x1
        have g1' : (wr.drewN nq).cell? ⟨g, k * 2 + 1, none⟩ = _ := g1
        have hgf' : (wr.drewN nq).frozen? ⟨g, k * 2 + 1, none⟩ = _ := hgf
        have lx' : _ < (wr.drewN nq).heap.size := lx
        have hgl' : _ < (wr.drewN nq).heap.size := hgl
        clear x0 x1 g0 g1 hgf lx hgl
        generalize wr.drewN nq = W3 at *
        obtain ⟨cs, hG, hBg, -, hO4⟩ := own_kinds y hO3.drew HSK.out
        have HEnd : Hid (WithIs w (ss.set k (e.1, y)) (.returned (.slice (some ⟨g, 0, none⟩) ss.length cap2)) (W3.drew.setCell ⟨g, k * 2 + 1, none⟩ (.int .i64 y))) := Lib.hid ⟨_, rfl, hO4, hB3.drew.setCell (p := ⟨g, _, none⟩) hBg _⟩
        clear hG hO4 hO3 hB3
        go_wp2
        refine wp_region_still_tail 10 (by kernel_rfl) (by kernel_rfl) ?_
        simp only [List.take_succ_cons, List.take_zero, List.drop_succ_cons, List.drop_zero]
        change wpStill _ _ (World.drew _) (fun a' => wpList _ _ _ _ a' (World.drew _)) _ _
        have x1 : W3.drew.cell? _ = _ := x1'
        have g1 : W3.drew.cell? _ = _ := g1'
        have hgf : W3.drew.frozen? _ = _ := hgf'
        have lx : _ < W3.drew.heap.size := lx'
        have hgl : _ < W3.drew.heap.size := hgl'
        clear x1' g1' hgf' lx' hgl'
        generalize World.drew W3 = W4 at *
        repeat still_step
        refine wpStill_nil ?_
        go_wp2
        go_ret
        exact HEnd.out
      · go_wp2
        go_quiet (fail)
        go_wp2
        have HF2 : Hid (∀ (j : Nat) (x : St), j < k + 1 → ss[j]? = some x → ¬ key8 x.1 = key8 s.1) := Lib.hid fun j x hj hx => by
          by_cases hjk : j < k
          · exact HF.out j x hjk hx
          · have : j = k := by omega
            subst this
            have hxs : x = e := Option.some.inj (hx.symm.trans HSK.out)
            subst hxs
            exact key8_ne (by simpa using hq)
        have HS2 := Lib.hid (show (wr.drewN nq).ownsRow w.heap.size 44 2 (.slice (some ⟨g, 0, none⟩) ss.length cap2) ss.length (rowS ss) ∧ Has (wr.drewN nq) w.heap.size 44 [.string s.1, .int .i64 s.2] ∧ Below w.heap.size w (wr.drewN nq) from ⟨own_keeps HS.out.1 (Keeps.drewN [] wr nq) (by simp), HS.out.2.1, below_drewN HS.out.2.2 nq⟩)
        go_roundw
        case rel => exact ⟨k + 1, by go_num, by omega, HF2, HS2⟩
        case measure => simp [intOf]; omega
    · have : k = ss.length := by omega
      subst this
      have hc := hZ.out HF.out
      subst hc
      obtain ⟨i0, hi, hz0, hz1, hz2⟩ := info_parts infoSt
      have HO3 := Lib.hid (HS.out.1.alloc (.cells #[.string s.1, .int .i64 s.2] 44))
      have hw0 := HS.out.2.2.size
      obtain ⟨n0, hn0⟩ : ∃ n, w.heap.size = n := ⟨_, rfl⟩
      have HB3 := Lib.hid HS.out.2.2
      rw [hn0] at HO3 hw0 x0 x1 lx HB3
      go_wp2_with (at_builtin; refine wpList_append_own _ rfl _ _ 31 rfl n0 44 i0 (.agg #[.string ⟨#[]⟩, .int .i64 0]) 2 24 Try.underlying31 hi hz0 hz1 hz2 rfl (by decide) _ _ _ rfl HO3.out ⟨wr.heap.size, 0, none⟩ 1 1 [.string s.1, .int .i64 s.2] rfl ?qc1 ?qc2 ?qc3 ?qc4 ?qc5 ?qc6 ?_)
      case qc3 => first | exact ⟨rfl, rfl⟩ | (intro u hu; simp at hu; rcases hu with rfl | rfl <;> rfl)
      case qc4 => unfold maxLen; omega
      case qc5 => omega
      case qc6 => omega
      intro v6 w6 hown6 hgrow6 _
      have HEnd : Hid (WithIs w (ss ++ [s]) (.returned v6) w6) := Lib.hid ⟨_, rfl, by rw [rowS_snoc, List.length_append, hn0]; exact hown6, by
        have hb := HB3.out
        rw [← hn0] at hb
        exact (hb.alloc hb.size _).grown hgrow6 (by simp; omega) (fun x hx => by have := (own_lt HS.out.1 x hx).1; exact this)⟩
      clear hown6 hgrow6
      go_wp2
      go_ret
      exact HEnd.out
end TabD
end Go.Proofs.Ytpmbbkhhnkhcbaa
