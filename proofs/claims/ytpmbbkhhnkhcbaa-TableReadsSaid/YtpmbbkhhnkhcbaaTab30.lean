/- The document's Stamp. -/
import Derived.Test.YtpmbbkhhnkhcbaaTab29
import Derived.Test.YtpmbbkhhnkhcbaaTab28
namespace Go.Proofs.Ytpmbbkhhnkhcbaa
open Go.RowKit ObjM Go.Maps
namespace TabD
open LabelM LabelD ValD

def nxt (ss l : List St) : List St := l.foldl withF ss
theorem withF_len (ss : List St) (s : St) : (withF ss s).length ≤ ss.length + 1 := by
  unfold withF
  cases nameAt ss (key8 s.1) <;> simp
theorem withF_ok {ss : List St} {s : St} (h : ∀ x ∈ ss, StOk x) (hs : StOk s) : ∀ x ∈ withF ss s, StOk x := by
  intro x hx
  unfold withF at hx
  cases hn : nameAt ss (key8 s.1) with
  | none =>
    rw [hn] at hx
    rcases List.mem_append.1 hx with h9 | h9
    · exact h x h9
    · have : x = s := by simpa using h9
      rw [this]
      exact hs
  | some n =>
    rw [hn] at hx
    obtain ⟨e, he, -⟩ := nameAt_some hn
    have hx : x ∈ ss.modify n (fun e => (e.1, andI e.2 s.2)) := hx
    rw [modify_set ss n e he] at hx
    rcases List.mem_or_eq_of_mem_set hx with h9 | h9
    · exact h x h9
    · rw [h9]
      exact ⟨(h e (List.mem_of_getElem? he)).1, andI_i64 _ _⟩
theorem nxt_len (ss l : List St) : (nxt ss l).length ≤ ss.length + l.length := by
  unfold nxt
  induction l generalizing ss with
  | nil => simp
  | cons a r ih =>
    have h1 := withF_len ss a
    have h2 := ih (withF ss a)
    simp only [List.foldl_cons, List.length_cons]
    omega
theorem nxt_ok {ss l : List St} (h : ∀ x ∈ ss, StOk x) (hl : ∀ x ∈ l, StOk x) : ∀ x ∈ nxt ss l, StOk x := by
  unfold nxt
  induction l generalizing ss with
  | nil => exact h
  | cons a r ih => exact ih (withF_ok h (hl a (by simp))) fun x hx => hl x (by simp [hx])
theorem nxt_snoc (ss l : List St) (s : St) : nxt ss (l ++ [s]) = withF (nxt ss l) s := by simp [nxt]
def okS (fs : List Fd) (nx : List St) (s : St) : Bool := match kindAt fs (strKey s.1) with | none => false | some kd => allowsB nx (key8 s.1) kd
def rstampF (fs : List Fd) (ss l : List St) : Option (List St) := if l.all (okS fs (nxt ss l)) = true then some (nxt ss l) else none
def RStampIs (w : World) (B R lab : Nat) (fs : List Fd) (fv sv : Value) (r : Option (List St)) (e : Ending) (w' : World) : Prop :=
  match r with
  | some ss' => e = .returned (.bool true) ∧ ∃ sv', IsRS w' B R lab fs fv sv' ss' ∧ Keeps [R] w w' ∧ ∀ x, sv'.ownBlock = some x → sv.ownBlock = some x ∨ w.heap.size ≤ x
  | none => e = .returned (.bool false) ∧ Below w.heap.size w w'
def NAt (w : World) (B : Nat) (sv : Value) (c : List St) (v : Value) (wr : World) : Prop :=
  wr.ownsRow B 44 2 v c.length (rowS c) ∧ Below w.heap.size w wr ∧ (∀ x, v.ownBlock = some x → sv.ownBlock = some x ∨ w.heap.size ≤ x)
theorem NAt.below {w : World} {B : Nat} {sv : Value} {c : List St} {v : Value} {wr wz : World} (h : NAt w B sv c v wr) (hb : Below wr.heap.size wr wz) : NAt w B sv c v wz :=
  ⟨own_keeps h.1 (Keeps.below' hb []) (by simp), h.2.1.trans (hb.mono h.2.1.size), h.2.2⟩
set_option maxRecDepth 100000 in
set_option maxHeartbeats 4000000 in
theorem rstamp_any (B R lab : Nat) (fs : List Fd) (fv sv : Value) (ss l : List St) (av : Option Addr) (cp : Nat) (w : World) (h : IsRS w B R lab fs fv sv ss) (hB : B ≤ w.heap.size) (hN : ss.length + l.length < 1000000) (hl : ∀ s ∈ l, StOk s)
    (hrow : l = [] ∨ ∃ g o, av = some ⟨g, o, none⟩ ∧ g < w.heap.size ∧ ∀ i s, l[i]? = some s → w.cell? ⟨g, o + i * 2, none⟩ = some (.string s.1) ∧ w.cell? ⟨g, o + i * 2 + 1, none⟩ = some (.int .i64 s.2)) :
    Calls Try.prog 30 #[.pointer (some ⟨R, 0, none⟩), .slice av l.length cp] w (RStampIs w B R lab fs fv sv (rstampF fs ss l)) := by
  have HH := Lib.hid h
  have HR := Lib.hid hrow
  have HL := Lib.hid hl
  have t2 := h.1.1.cell 2
  have lR := h.1.1.lt
  simp only [List.getElem?_cons_zero, List.getElem?_cons_succ] at t2
  have H0 : Hid (NAt w B sv (nxt ss (l.take 0)) sv w) := Lib.hid ⟨h.2.1, Below.refl _ _, fun x hx => .inl hx⟩
  have HNo : Hid (∀ (k : Nat) (s : St), l[k]? = some s → okS fs (nxt ss l) s = false → rstampF fs ss l = none) := Lib.hid fun k s h1 h2 => by
    unfold rstampF
    rw [if_neg]
    rw [List.all_eq_true]
    intro h3
    have := h3 s (List.mem_of_getElem? h1)
    rw [h2] at this
    cases this
  have HYes : Hid ((∀ (k : Nat) (s : St), k < l.length → l[k]? = some s → okS fs (nxt ss l) s = true) → rstampF fs ss l = some (nxt ss l)) := Lib.hid fun h1 => by
    unfold rstampF
    rw [if_pos]
    rw [List.all_eq_true]
    intro x hx
    obtain ⟨j, hj⟩ := List.getElem?_of_mem hx
    exact h1 j x (List.getElem?_eq_some_iff.1 hj).1 hj
  obtain ⟨r, hr⟩ : ∃ r, rstampF fs ss l = r := ⟨_, rfl⟩
  rw [hr] at HNo HYes ⊢
  have hle : ∀ k, (nxt ss (l.take k)).length < 1000000 := fun k => by
    have h1 := nxt_len ss (l.take k)
    have h2 : (l.take k).length ≤ l.length := by rw [List.length_take]; omega
    omega
  have HLE := Lib.hid hle
  clear h hrow hl hr hle
  go_enter Try.func30, Try.ntmps30
  go_wp2
  go_loopw [5, 17] (fun v i wr => ∃ k : Nat, i = .int .i64 k ∧ k ≤ l.length ∧ Hid (NAt w B sv (nxt ss (l.take k)) v wr)) (fun _ i _ => l.length - (intOf i).toNat)
  case atStart => exact ⟨0, rfl, Nat.zero_le _, H0⟩
  case round =>
    obtain ⟨k, rfl, hk, HN1⟩ := hrel
    by_cases hlt : k < l.length
    · obtain ⟨s, hsk⟩ : ∃ s, l[k]? = some s := ⟨_, List.getElem?_eq_getElem hlt⟩
      obtain ⟨g, o, rfl, hgl, g0, g1⟩ : ∃ g o, av = some ⟨g, o, none⟩ ∧ g < wr.heap.size ∧ wr.cell? ⟨g, o + k * 2, none⟩ = some (.string s.1) ∧ wr.cell? ⟨g, o + k * 2 + 1, none⟩ = some (.int .i64 s.2) := by
        rcases HR.out with h9 | ⟨g, o, h1, h2, h3⟩
        · rw [h9] at hlt
          simp at hlt
        · have hb := HN1.out.2.1
          exact ⟨g, o, h1, by have := hb.size; omega, (keeps_cell (Keeps.below' hb []) h2 (by simp)).trans (h3 k s hsk).1, (keeps_cell (Keeps.below' hb []) h2 (by simp)).trans (h3 k s hsk).2⟩
      have hb0 := Has.new wr 44 [.string s.1, .int .i64 s.2]
      have b0 := hb0.cell 0
      have b1 := hb0.cell 1
      have hlb := hb0.lt
      simp only [List.getElem?_cons_zero, List.getElem?_cons_succ] at b0 b1
      have HA := Lib.hid (HN1.out.below ((Below.refl wr.heap.size wr).alloc (Nat.le_refl _) (.cells #[.string s.1, .int .i64 s.2] 44)))
      have HW := Lib.hid (with_st B _ (nxt ss (l.take k)) s _ HA.out.1 (HLE.out k))
      have HTk : Hid (nxt ss (l.take (k + 1)) = withF (nxt ss (l.take k)) s) := Lib.hid (by rw [List.take_add_one, hsk]; exact nxt_snoc _ _ _)
      clear hsk hb0
      go_wp2_with fail
      refine (HW.out).mono ?_
      rintro e w2 ⟨v2, rfl, ho2, hb2⟩
      have HA2 : Hid (NAt w B sv (nxt ss (l.take (k + 1))) v2 w2) := Lib.hid (by
        rw [HTk.out]
        refine ⟨own_base ho2 (Nat.le_trans hB HA.out.2.1.size), HA.out.2.1.trans (hb2.mono HA.out.2.1.size), fun x hx => .inr ?_⟩
        have h1 := (own_lt ho2 x hx).1
        have h2 := HA.out.2.1.size
        omega)
      clear ho2 hb2
      go_wp2
      go_roundw
      case rel => exact ⟨k + 1, by go_num, by omega, HA2⟩
      case measure => simp [intOf]; omega
    · have : k = l.length := by omega
      subst this
      have hn1 := HN1.out
      rw [List.take_length] at hn1
      obtain ⟨a5, c5, hv5⟩ := own_slice hn1.1
      subst hv5
      have HN2 := Lib.hid hn1
      clear hn1 HN1 H0
      go_wp2
      clear t2 lR
      go_loopw [27] (fun i wz => ∃ k : Nat, i = .int .i64 k ∧ k ≤ l.length ∧ Hid (NAt w B sv (nxt ss l) (.slice a5 (nxt ss l).length c5) wz) ∧ Hid (∀ (j : Nat) (s : St), j < k → l[j]? = some s → okS fs (nxt ss l) s = true)) (fun i _ => l.length - (intOf i).toNat)
      case atStart => exact ⟨0, rfl, Nat.zero_le _, HN2, Lib.hid (fun j s hj => by omega)⟩
      case round =>
        obtain ⟨k, rfl, hk2, HN3, HF⟩ := hrel
        by_cases hlt : k < l.length
        · obtain ⟨s, hsk⟩ : ∃ s, l[k]? = some s := ⟨_, List.getElem?_eq_getElem hlt⟩
          have HSok := Lib.hid (HL.out s (List.mem_of_getElem? hsk))
          obtain ⟨g, o, rfl, hgl, g0, g1⟩ : ∃ g o, av = some ⟨g, o, none⟩ ∧ g < wr.heap.size ∧ wr.cell? ⟨g, o + k * 2, none⟩ = some (.string s.1) ∧ wr.cell? ⟨g, o + k * 2 + 1, none⟩ = some (.int .i64 s.2) := by
            rcases HR.out with h9 | ⟨g, o, h1, h2, h3⟩
            · rw [h9] at hlt
              simp at hlt
            · have hb := HN3.out.2.1
              exact ⟨g, o, h1, by have := hb.size; omega, (keeps_cell (Keeps.below' hb []) h2 (by simp)).trans (h3 k s hsk).1, (keeps_cell (Keeps.below' hb []) h2 (by simp)).trans (h3 k s hsk).2⟩
          have HSK := Lib.hid hsk
          have hb0 := Has.new wr 44 [.string s.1, .int .i64 s.2]
          have b0 := hb0.cell 0
          have hlb := hb0.lt
          simp only [List.getElem?_cons_zero] at b0
          have HA : Hid (NAt w B sv (nxt ss l) (.slice a5 (nxt ss l).length c5) (wr.alloc (.cells #[.string s.1, .int .i64 s.2] 44))) := Lib.hid (HN3.out.below ((Below.refl _ _).alloc (Nat.le_refl _) _))
          have HX := Lib.hid hb0
          have HFi := Lib.hid (refFind_any B R lab fs fv sv (strKey s.1) _ (HH.out.below HA.out.2.1).1)
          have hpl : refPlace fs (strKey s.1) = match placeOf fs (strKey s.1) with | some i => (i : Int) | none => -1 := by unfold refPlace; rw [if_pos (strKey_key s.1)]; cases placeOf fs (strKey s.1) <;> rfl
          rw [hpl] at HFi
          clear hsk hb0 hpl
          have hcase : placeOf fs (strKey s.1) = none ∨ ∃ i, placeOf fs (strKey s.1) = some i := by cases placeOf fs (strKey s.1) <;> simp
          rcases hcase with hp | ⟨i, hp⟩
          · have hr := HNo.out k s HSK.out (by simp [okS, kindAt, hp])
            subst hr
            rw [hp] at HFi
            go_wp2_with fail
            refine (HFi.out).mono ?_
            rintro e w2 ⟨rfl, hb2⟩
            have HA2 := Lib.hid (HA.out.below hb2)
            clear hb2
            go_wp2
            go_quiet (fail)
            go_wp2
            go_ret
            exact ⟨rfl, below_drewN HA2.out.2.1 _⟩
          · obtain ⟨f, hf, -⟩ := placeOf_some hp
            have hOk : okS fs (nxt ss l) s = allowsB (nxt ss l) (key8 s.1) f.2.k := by simp [okS, kindAt, hp, hf]
            have hif : i < fs.length := (List.getElem?_eq_some_iff.1 hf).1
            rw [hp] at HFi
            obtain ⟨bo, hbo⟩ : ∃ b, allowsB (nxt ss l) (key8 s.1) f.2.k = b := ⟨_, rfl⟩
            rw [hbo] at hOk
            have HOk := Lib.hid hOk
            have HAl := Lib.hid (fun (W : World) (hb : NAt w B sv (nxt ss l) (.slice a5 (nxt ss l).length c5) W) => allows_any B _ (nxt ss l) s.1 f.2.k W hb.1 (by have := HLE.out l.length; rw [List.take_length] at this; omega))
            simp only [hbo] at HAl
            have HFf := Lib.hid hf
            clear hOk hbo hp hf
            go_wp2_with fail
            refine (HFi.out).mono ?_
            rintro e w2 ⟨rfl, hb2⟩
            have HA2 := Lib.hid (HA.out.below hb2)
            have HX2 := Lib.hid (HX.out.below hb2 HX.out.lt)
            have hI2 := HH.out.below HA2.out.2.1
            obtain ⟨gf, capf, hfv, hgfl, hgf⟩ : ∃ gf capf, fv = .slice (some ⟨gf, 0, none⟩) fs.length capf ∧ gf < w2.heap.size ∧ w2.cell? ⟨gf, i * 8 + 4, none⟩ = some (.int .i64 f.2.k) := by
              have hO := hI2.1.2.1
              rcases own_shape hO with ⟨_, h9, _⟩ | ⟨gf, capf, csf, hfv, _, hh, _⟩
              · omega
              · rw [hfv] at hO
                obtain ⟨hj, hv7⟩ := List.getElem?_eq_some_iff.1 (show (rowF fs)[i * 8 + 4]? = some (.int .i64 f.2.k) by rw [rowF_at fs i f HFf.out 4 (by omega)]; rfl)
                exact ⟨gf, capf, hfv, hh.lt, by rw [own_cell hO _ hj, hv7]⟩
            subst hfv
            have t1 := hI2.1.1.cell 1
            have lT := hI2.1.1.lt
            have c0 := HX2.out.cell 0
            have lc := HX2.out.lt
            simp only [List.getElem?_cons_zero, List.getElem?_cons_succ] at t1 c0
            have hi1 : (i : Int) < (fs.length : Int) := by omega
            have hi0 : (0 : Int) ≤ (i : Int) := by omega
            have hin : ¬ (i : Int) < 0 := by omega
            clear hb2 hI2 b0 hlb g0 g1 hgl
            go_wp2
            refine wp_region_still_tail 15 (by kernel_rfl) (by kernel_rfl) ?_
            simp only [List.take_succ_cons, List.take_zero, List.drop_succ_cons, List.drop_zero]
            change wpStill _ _ (World.drew _) (fun a' => wpList _ _ _ _ a' (World.drew _)) _ _
            have HA3 : Hid (NAt w B sv (nxt ss l) (.slice a5 (nxt ss l).length c5) w2.drew) := Lib.hid ⟨own_keeps HA2.out.1 (Keeps.drew [] w2) (by simp), HA2.out.2.1.drew, HA2.out.2.2⟩
            have t1' : (World.drew w2).cell? _ = _ := t1
            have c0' : (World.drew w2).cell? _ = _ := c0
            have hgf' : (World.drew w2).cell? _ = _ := hgf
            have lT' : _ < (World.drew w2).heap.size := lT
            have lc' : _ < (World.drew w2).heap.size := lc
            have hgfl' : _ < (World.drew w2).heap.size := hgfl
            clear t1 c0 hgf lT lc hgfl HA2 HX2
            generalize World.drew w2 = W3 at *
            repeat still_step
            refine wpStill_nil ?_
            go_wp2_with fail
            refine (HAl.out _ HA3.out).mono ?_
            rintro e w4 ⟨rfl, hb4⟩
            have HA4 := Lib.hid (HA3.out.below hb4)
            clear hb4
            cases bo
            · have hr := HNo.out k s HSK.out HOk.out
              subst hr
              go_wp2
              go_ret
              exact ⟨rfl, HA4.out.2.1⟩
            · go_wp2
              have HF2 : Hid (∀ (j : Nat) (x : St), j < k + 1 → l[j]? = some x → okS fs (nxt ss l) x = true) := Lib.hid fun j x hj hx => by
                by_cases hjk : j < k
                · exact HF.out j x hjk hx
                · have : j = k := by omega
                  subst this
                  have hxs : x = s := Option.some.inj (hx.symm.trans HSK.out)
                  subst hxs
                  exact HOk.out
              go_roundw
              case rel => exact ⟨k + 1, by go_num, by omega, HA4, HF2⟩
              case measure => simp [intOf]; omega
        · have : k = l.length := by omega
          subst this
          have hr := HYes.out HF.out
          subst hr
          have hIz := HH.out.below HN3.out.2.1
          have t2 := hIz.1.1.cell 2
          have f2 := hIz.1.1.frozen 2
          have lT := hIz.1.1.lt
          simp only [List.getElem?_cons_zero, List.getElem?_cons_succ] at t2
          have HEnd : Hid (RStampIs w B R lab fs fv sv (some (nxt ss l)) (.returned (.bool true)) (wr.setCell ⟨R, 2, none⟩ (.slice a5 (nxt ss l).length c5))) := Lib.hid ⟨rfl, _, ⟨⟨hIz.1.1.set 2 (.slice a5 (nxt ss l).length c5), own_keeps hIz.1.2.1 (Keeps.set wr R 2 (.slice a5 (nxt ss l).length c5)) (fun g hg hm => by
              obtain ⟨cs, hc⟩ := own_row hIz.1.2.1 g hg
              have : g = R := by simpa using hm
              subst this
              exact hc.ne hIz.1.1 (by decide) rfl), hIz.1.2.2⟩, own_keeps HN3.out.1 (Keeps.set wr R 2 (.slice a5 (nxt ss l).length c5)) (fun g hg hm => by
              obtain ⟨cs, hc⟩ := own_row HN3.out.1 g hg
              have : g = R := by simpa using hm
              subst this
              exact hc.ne hIz.1.1 (by decide) rfl), nxt_ok HH.out.2.2.1 HL.out, by have := nxt_len ss l; omega⟩, (Keeps.below' HN3.out.2.1 [R]).trans (Keeps.set wr R 2 (.slice a5 (nxt ss l).length c5)) (by simp), HN3.out.2.2⟩
          clear hIz
          go_wp2
          go_ret
          exact HEnd.out
end TabD
end Go.Proofs.Ytpmbbkhhnkhcbaa
