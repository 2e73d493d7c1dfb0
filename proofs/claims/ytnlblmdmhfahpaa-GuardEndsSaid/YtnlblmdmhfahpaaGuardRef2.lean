/- The document's own guard: At. -/
import Derived.Test.YtnlblmdmhfahpaaGuardRef
import Derived.Deep.RegionHeld3
import Derived.Tactics2
import Derived.Laws.Pointers
namespace Go.Proofs.Ytnlblmdmhfahpaa
open Go.RowKit ObjM
namespace GuardD
open LabelM LabelD GuardM

theorem IsR.len {w : World} {B R lab : Nat} {rs : List Reg} (h : IsR w B R lab rs) : lenAt w R 1 = rs.length := by
  obtain ⟨sv, hG, hO, -⟩ := h
  unfold lenAt
  have := hG.cell 1
  simp at this
  rw [this]
  rcases own_shape hO with ⟨rfl, h, _⟩ | ⟨g, cap, cs, rfl, _⟩
  · exact h.symm
  · rfl
def AtIsR (w : World) (B G : Nat) (F : List Reg × Nat × List Int) (e : Ending) (w' : World) : Prop :=
  ∃ v, e = .returned v ∧ IsR w' B G F.2.1 F.1 ∧ w'.ownsRow w.heap.size 3 1 v F.2.2.length (intsV F.2.2) ∧ KeepsT [31, 58] w w' ∧ Below B w w'
def AtKR (w : World) (B G : Nat) (j : Int) (F : List Reg × Nat × List Int) (tv : Value) (rs : List Reg) (lab : Nat) (tags : List Int) (wr : World) : Prop :=
  IsR wr B G lab rs ∧ wr.ownsRow w.heap.size 3 1 tv tags.length (intsV tags) ∧ KeepsT [31, 58] w wr ∧ Below B w wr ∧ (if j < 0 then (rs, lab, tags) else atGo j (rs.length + 1) rs lab tags) = F ∧ rs.length ≤ 1000000 ∧ tags.length + rs.length ≤ 1000000

set_option maxRecDepth 100000 in
set_option maxHeartbeats 1000000 in
theorem refAt_any (j : Int) (B R lab : Nat) (rs : List Reg) (hrs : rs.length ≤ 1000000) (w : World) (hBw : B ≤ w.heap.size) (h : IsR w B R lab rs) :
    Calls Try.prog 12 #[.pointer (some ⟨R, 0, none⟩), .int .i64 j] w (AtIsR w B R (atR j rs lab)) := by
  obtain ⟨i0, hi, hz0, hz1, hz2⟩ := info_parts infoIntG
  obtain ⟨F, hF⟩ : ∃ F, atR j rs lab = F := ⟨_, rfl⟩
  rw [hF]
  have H0 : Hid (AtKR w B R j F (.slice none 0 0) rs lab [] w) := Lib.hid ⟨h, World.ownsRow_nil _ _ _ _, KeepsT.refl _ _, Below.refl _ _, by unfold atR at hF; exact hF, hrs, by simpa using hrs⟩
  clear hF h
  go_enter Try.func12, Try.ntmps12
  go_wp2
  go_loopw [5] (fun tv wr => ∃ rs' lab' tags, AtKR w B R j F tv rs' lab' tags wr) (fun _ wr => lenAt wr R 1)
  case atStart => exact ⟨_, _, _, H0.out⟩
  case round =>
    obtain ⟨rs', lab', tags, hI, hT, hK, hb, hF, hr1, hr2⟩ := hrel
    have hI' := hI
    have hlen := Lib.hid hI.len
    obtain ⟨sv, hG, hown, hBR, hlab, hsm⟩ := hI'
    have h1 := hG.cell 1
    have hGl := hG.lt
    simp at h1
    have HE : Hid (∀ n, F = (rs', lab', tags) → AtIsR w B R F (.returned u5) (wr.drewN n)) := Lib.hid fun n hn => by
      have kd := (KeepsT.refl [] wr).drewN n
      rw [hn]
      exact ⟨_, rfl, hI.keeps kd (by simp) (by simp), own_keepsT hT kd (by simp), hK.drewN n, below_drewN hb n⟩
    by_cases hj : j < 0
    · rw [if_pos hj] at hF
      have HF := Lib.hid hF.symm
      have hjd : decide (0 ≤ j) = false := by simpa using hj
      clear hF hI hT hK hb hG hown
      go_wp2
      go_quiet (fail)
      go_wp2
      go_ret
      exact HE.out _ HF.out
    · rw [if_neg hj] at hF
      have hj0 : 0 ≤ j := by omega
      rcases last_split rs' with rfl | ⟨pre, r, rfl⟩
      · have HF := Lib.hid ((atGo_none (j := j) (n := 1) (lab := lab') (tags := tags)).symm.trans hF).symm
        obtain ⟨a, cap, rfl⟩ : ∃ a cap, sv = .slice a 0 cap := by
          rcases own_shape hown with ⟨h, _⟩ | ⟨g, cap, cs, h, _⟩
          · exact ⟨_, _, h⟩
          · exact ⟨_, _, h⟩
        clear hF hI hT hK hb hG hown
        go_wp2
        go_quiet (fail)
        go_wp2
        go_ret
        exact HE.out _ HF.out
      · obtain ⟨g, cap, rfl, hcap, hm, hg, g0, g1, g2⟩ := last_cells hown
        have hn : pre.length ≤ 1000000 := by simp at hr1; omega
        have e0 : decide (0 < (pre.length : Int) + 1) = true := decide_eq_true (by omega)
        have w1 : IntKind.i64.wrap ((pre.length : Int) + 1 - 1) = pre.length := by rw [show (pre.length : Int) + 1 - 1 = pre.length by omega]; exact IntWalk.i64_in _ (by omega)
        have w2 : IntKind.i64.wrap (pre.length : Int) = pre.length := IntWalk.i64_in _ (by omega)
        by_cases hrj : r.join = j
        · obtain ⟨rj, rt, ra⟩ := r
          simp only at hrj g0 g1 g2
          subst hrj
          have hra : ra < M64 := hsm ⟨rj, rt, ra⟩ (by simp)
          have HI := Lib.hid hI
          have HG := Lib.hid hG
          have HT := Lib.hid hT
          have HK := Lib.hid hK
          have HB := Lib.hid hb
          have HO : Hid (wr.ownsRow B 58 3 (.slice (some ⟨g, 0, none⟩) (pre.length + 1) cap) (pre.length + 1) (rowV (pre ++ [⟨rj, rt, ra⟩]))) := Lib.hid (by simpa using hown)
          have hp2 : tags.length + 1 + pre.length ≤ 1000000 := by simp at hr2; omega
          have HF : Hid (atGo rj (pre.length + 1) pre ra (tags ++ [rt]) = F) := Lib.hid (by rw [← hF, List.length_append]; exact (atGo_go (r := ⟨rj, rt, ra⟩) rfl).symm)
          have HS : Hid (Small pre) := Lib.hid fun x hx => hsm x (by simp [hx])
          clear hF hI hT hK hb hG hown hsm hr1 hr2
          go_wp2
          go_quiet (fail)
          go_wp2
          have hkd : KeepsT [] wr (wr.drewN nq) := (KeepsT.refl [] wr).drewN nq
          have hG2 := HG.out.keepsT hkd (by simp)
          have hO2 := own_keepsT HO.out hkd (by simp)
          have hkb : Below B wr (wr.drewN nq) := below_drewN (Below.refl _ _) _
          clear h1 hGl hg g0 g1 g2
          generalize wr.drewN nq = w3 at hG2 hO2 hkd hkb ⊢
          have HO3 := Lib.hid hO2
          have HG3 := Lib.hid hG2
          have hO2' : w3.ownsRow B 58 3 (.slice (some ⟨g, 0, none⟩) (pre.length + 1) cap) (pre ++ [(⟨rj, rt, ra⟩ : Reg)]).length (rowV (pre ++ [⟨rj, rt, ra⟩])) := by simpa using hO2
          obtain ⟨g', cap', hgc, -, -, hg, g0, g1, g2⟩ := last_cells hO2'
          injection hgc with hgc1 hgc2 hgc3
          injection hgc1 with hgc1
          injection hgc1 with hgc1
          subst hgc1 hgc3
          have h1 := hG2.cell 1
          have h0 := hG2.cell 0
          have f0 := hG2.frozen 0
          have f1 := hG2.frozen 1
          have hGl := hG2.lt
          simp at h0 h1
          have HK2 := Lib.hid hkd
          have HB2 := Lib.hid hkb
          clear hO2 hO2' hG2 hkd hkb
          have hix : (pre.length : Int) < (pre.length : Int) + 1 := by omega
          go_region_held3 (fun w' => w'.cell? ⟨R, 1, none⟩ = some (.slice (some ⟨g, 0, none⟩) (pre.length + 1) cap) ∧ w'.cell? ⟨g, pre.length * 3, none⟩ = some (.int .i64 rj) ∧ w'.cell? ⟨g, pre.length * 3 + 1, none⟩ = some (.int .i64 rt) ∧ w'.cell? ⟨g, pre.length * 3 + 2, none⟩ = some (.int .u64 (ra : Int))) (go_keep) (fail)
          go_wp2
          have hG4 : Has (w3.alloc (.cells #[.int .i64 rj, .int .i64 rt, .int .u64 (ra : Int)] 58)).drew R 31 _ := (HG3.out.keepsT ((KeepsT.refl [] w3).alloc _) (by simp)).drew
          have hO4 : (w3.alloc (.cells #[.int .i64 rj, .int .i64 rt, .int .u64 (ra : Int)] 58)).drew.ownsRow B 58 3 _ _ _ := ((HO3.out).alloc _).drew
          have hbox : Has (w3.alloc (.cells #[.int .i64 rj, .int .i64 rt, .int .u64 (ra : Int)] 58)).drew w3.heap.size 58 _ := (Has.new w3 _ [.int .i64 rj, .int .i64 rt, .int .u64 (ra : Int)]).drew
          have hk4 : KeepsT [] wr (w3.alloc (.cells #[.int .i64 rj, .int .i64 rt, .int .u64 (ra : Int)] 58)).drew := (HK2.out.alloc _).drew
          have hb4 : Below B wr (w3.alloc (.cells #[.int .i64 rj, .int .i64 rt, .int .u64 (ra : Int)] 58)).drew := (HB2.out.alloc (Nat.le_trans (Nat.le_trans hBw HK.out.size) HK2.out.size) _).drew
          clear h1 h0 f0 f1 g0 g1 g2 hGl hg
          generalize World.drew _ = w4 at hG4 hO4 hbox hk4 hb4 ⊢
          generalize w3.heap.size = X at hbox ⊢
          have h1 := hG4.cell 1
          have h0 := hG4.cell 0
          have f0 := hG4.frozen 0
          have f1 := hG4.frozen 1
          have hGl := hG4.lt
          have b1 := hbox.cell 1
          have b2 := hbox.cell 2
          have hXl := hbox.lt
          have hne := hbox.ne hG4 (by decide)
          simp at h0 h1 b1 b2
          have HG4 := Lib.hid hG4
          have HO4 := Lib.hid hO4
          have HK4 := Lib.hid hk4
          have HB4 := Lib.hid hb4
          clear hG4 hO4 hk4 hbox hb4
          go_region
          have hGa := HG4.out.set 1 (.slice (some ⟨g, 0, none⟩) pre.length cap)
          have hIa : IsR (w4.setCell ⟨R, 1, none⟩ (.slice (some ⟨g, 0, none⟩) pre.length cap)) B R lab' pre := by
            refine ⟨_, hGa, ?_, hBR, hlab, HS.out⟩
            have h3 := own_take (m := pre.length) HO4.out (by omega)
            rw [rowV_take] at h3
            refine own_keeps h3 (Keeps.set w4 R 1 _) fun x hx => ?_
            have := own_ne h3 HG4.out (by decide) x hx
            simpa using this
          obtain ⟨q1, q2, q3⟩ := hIa.label hra
          have hk5 : KeepsT [31, 58] wr ((w4.setCell ⟨R, 1, none⟩ (.slice (some ⟨g, 0, none⟩) pre.length cap)).setCell ⟨R, 0, none⟩ (.int .u64 (ra : Int))) :=
            ((HK4.out.mono (by simp)).set HG4.out (.inl (by simp)) 1 _).trans q2 (by simp)
          have hb5 : Below B w ((w4.setCell ⟨R, 1, none⟩ (.slice (some ⟨g, 0, none⟩) pre.length cap)).setCell ⟨R, 0, none⟩ (.int .u64 (ra : Int))) :=
            ((HB.out.trans HB4.out).setCell (p := ⟨R, 1, none⟩) hBR _).trans q3
          have hT5 := own_keepsT HT.out hk5 (by decide)
          have hz5 : wr.heap.size ≤ w4.heap.size := HK4.out.size
          have hz6 := HK.out.size
          have HI5 := Lib.hid q1
          have HK5 := Lib.hid hk5
          have HB5 := Lib.hid hb5
          have HT5 := Lib.hid hT5
          clear hGa hIa q1 q2 q3 hk5 hb5 hT5
          go_wp2_with (at_builtin; refine wpList_append_own _ rfl (.tmp 65) (.tmp 68) 35 rfl w.heap.size 3 i0 (.int .i64 0) 1 8 Try.underlying35 hi hz0 hz1 hz2 rfl (by decide) u5 tags.length (intsV tags) rfl ?own ⟨w4.heap.size, 0, none⟩ 1 1 [.int .i64 rt] rfl rfl ?new (by simp [Value.oneCell']) (by unfold maxLen; omega) (by omega) ?base ?next)
          case own => exact (HT5.out.alloc _).drew
          case new =>
            intro k u hu
            exact cell_new1 (by simp [World.setCell]) k u hu
          case base => simp [World.setCell]; omega
          case next =>
            intro v' w5 hown' hgrow _
            have HA : Hid (AtKR w B R rj F v' pre ra (tags ++ [rt]) w5) := Lib.hid (by
              have hT6 := (HT5.out.alloc (.cells #[.int .i64 rt] 3)).drew
              have kg := (KeepsT.refl [3] _).grown hgrow (fun g hg => .inr (by obtain ⟨cs, hc⟩ := own_row hT6 g hg; exact ⟨_, cs, hc, by simp⟩))
              refine ⟨((HI5.out.alloc _).keeps (ts := []) ((KeepsT.refl _ _).drew) (by simp) (by simp)).keeps kg (by decide) (by decide), ?_, ?_, ?_, ?_, hn, by simp; omega⟩
              · rw [List.length_append, intsV_snoc]
                exact hown'
              · exact (((HK.out.trans HK5.out (fun _ h => h)).alloc _).drew.grown hgrow (fun g hg => .inl (own_lt hT6 g hg).1))
              · exact ((HB5.out.alloc (by simp [World.setCell]; omega) _).drew).grown hgrow (by simp [World.setCell]; omega) (fun g hg => Nat.le_trans hBw (own_lt hT6 g hg).1)
              · rw [if_neg (by omega)]
                exact HF.out)
            clear hown' hgrow
            go_wp2
            go_roundw
            case rel => exact ⟨_, _, _, HA.out⟩
            case measure =>
              have h1 := HA.out.1.len
              have h2 := hlen.out
              simp at h2
              omega
        · have HF := Lib.hid ((atGo_stop (n := (pre ++ [r]).length + 1) (lab := lab') (tags := tags) hrj).symm.trans hF).symm
          have hrb : (r.join == j) = false := by simpa using hrj
          clear hF hI hT hK hb hG hown hrj
          go_wp2
          go_quiet (fail)
          go_wp2
          go_ret
          exact HE.out _ HF.out
end GuardD
end Go.Proofs.Ytnlblmdmhfahpaa
