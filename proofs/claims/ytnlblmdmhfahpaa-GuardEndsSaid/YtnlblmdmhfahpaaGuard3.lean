/- At of package guard. -/
import Derived.Test.YtnlblmdmhfahpaaGuard2
namespace Go.Proofs.Ytnlblmdmhfahpaa
open Go.RowKit ObjM
namespace GuardD
open LabelM LabelD GuardM

def lenAt (w : World) (G i : Nat) : Nat := match w.cell? ⟨G, i, none⟩ with | some (.slice _ n _) => n | _ => 0
theorem IsG.len {w : World} {B G lab : Nat} {rs : List Reg} (h : IsG w B G lab rs) : lenAt w G 0 = rs.length := by
  obtain ⟨sv, hG, hO, -⟩ := h
  unfold lenAt
  have := hG.cell 0
  simp at this
  rw [this]
  rcases own_shape hO with ⟨rfl, h, _⟩ | ⟨g, cap, cs, rfl, _⟩
  · exact h.symm
  · rfl
theorem infoIntG : (Try.prog.info? 3).map (fun i => (i.zero, i.size, i.bytes)) = some (some (.int .i64 0), 1, 8) := by kernel_rfl
def intsV (l : List Int) : List Value := l.map (Value.int .i64)
theorem intsV_snoc (l : List Int) (x : Int) : intsV (l ++ [x]) = intsV l ++ [.int .i64 x] := by simp [intsV]
/-- What At comes to. -/
def AtIs (w : World) (B G : Nat) (F : List Reg × Nat × List Int) (e : Ending) (w' : World) : Prop :=
  ∃ v, e = .returned v ∧ IsG w' B G F.2.1 F.1 ∧ w'.ownsRow w.heap.size 3 1 v F.2.2.length (intsV F.2.2) ∧ KeepsT [50, 52] w w' ∧ Below B w w'
/-- Where the loop stands. -/
def AtK (w : World) (B G : Nat) (j : Int) (F : List Reg × Nat × List Int) (tv : Value) (rs : List Reg) (lab : Nat) (tags : List Int) (wr : World) : Prop :=
  IsG wr B G lab rs ∧ wr.ownsRow w.heap.size 3 1 tv tags.length (intsV tags) ∧ KeepsT [50, 52] w wr ∧ Below B w wr ∧ atGo j (rs.length + 1) rs lab tags = F ∧ rs.length ≤ 1000000 ∧ tags.length + rs.length ≤ 1000000
theorem atGo_none {j : Int} {n : Nat} {lab : Nat} {tags : List Int} : atGo j n [] lab tags = ([], lab, tags) := by cases n <;> rfl
theorem atGo_stop {j : Int} {n : Nat} {pre : List Reg} {r : Reg} {lab : Nat} {tags : List Int} (h : r.join ≠ j) : atGo j n (pre ++ [r]) lab tags = (pre ++ [r], lab, tags) := by
  cases n
  · rfl
  · unfold atGo
    simp [h]
theorem atGo_go {j : Int} {n : Nat} {pre : List Reg} {r : Reg} {lab : Nat} {tags : List Int} (h : r.join = j) : atGo j (n + 1) (pre ++ [r]) lab tags = atGo j n pre r.was (tags ++ [r.tag]) := by
  rw [atGo]
  simp [h]

theorem cell_new1 {w : World} {x : Value} {t : TypeId} {n : Nat} (hn : n = w.heap.size) : ∀ (k : Nat) u, [x][k]? = some u → (w.alloc (.cells #[x] t)).cell? ((⟨n, 0, none⟩ : Addr).add k) = some u := by
  intro k u hu
  have hk := (List.getElem?_eq_some_iff.1 hu).1
  match k, hk with
  | 0, _ =>
    have e : (⟨n, 0, none⟩ : Addr).add 0 = ⟨n, 0, none⟩ := rfl
    subst hn
    rw [e, World.cell?_alloc_at _ _ _ _ rfl]
    simpa using hu

set_option maxRecDepth 100000 in
set_option maxHeartbeats 1000000 in
theorem at_any (j : Int) (hj : 0 ≤ j) (B G lab : Nat) (rs : List Reg) (hrs : rs.length ≤ 1000000) (w : World) (hBw : B ≤ w.heap.size) (h : IsG w B G lab rs) :
    Calls Try.prog 11 #[.pointer (some ⟨G, 0, none⟩), .int .i64 j] w (AtIs w B G (atR j rs lab)) := by
  obtain ⟨i0, hi, hz0, hz1, hz2⟩ := info_parts infoIntG
  obtain ⟨F, hF⟩ : ∃ F, atR j rs lab = F := ⟨_, rfl⟩
  rw [hF]
  have H0 : Hid (AtK w B G j F (.slice none 0 0) rs lab [] w) := Lib.hid ⟨h, World.ownsRow_nil _ _ _ _, KeepsT.refl _ _, Below.refl _ _, by unfold atR at hF; rw [if_neg (by omega)] at hF; exact hF, hrs, by simpa using hrs⟩
  clear hF h
  go_enter Try.func11, Try.ntmps11
  go_wp2
  go_loopw [5] (fun tv wr => ∃ rs' lab' tags, AtK w B G j F tv rs' lab' tags wr) (fun _ wr => lenAt wr G 0)
  case atStart => exact ⟨_, _, _, H0.out⟩
  case round =>
    obtain ⟨rs', lab', tags, hI, hT, hK, hb, hF, hr1, hr2⟩ := hrel
    have hI' := hI
    have hlen := Lib.hid hI.len
    obtain ⟨sv, hG, hown, hBG, hlab, hsm⟩ := hI'
    have h0 := hG.cell 0
    have hGl := hG.lt
    simp at h0
    rcases top_of hown hr1 with ⟨rfl, ht⟩ | ⟨pre, r, rfl, g, cap, rfl, hcap, ht⟩
    · have H1 := Lib.hid ht
      have HE : Hid (∀ w1, Below wr.heap.size wr w1 → AtIs w B G F (.returned u5) w1) := Lib.hid fun w1 hb1 => by
        rw [← hF, atGo_none]
        exact ⟨_, rfl, hI.keeps (KeepsT.below hb1 []) (by simp) (by simp), own_keepsT hT (KeepsT.below hb1 []) (by simp), hK.trans (KeepsT.below hb1 _) (fun _ h => h), hb.trans (hb1.mono (Nat.le_trans hBw hK.size))⟩
      have HB := Lib.hid (Nat.le_trans hBw hK.size)
      clear hF hI hT hK hb
      go_wp2_with fail
      with_reducible refine ((H1).out).mono ?_
      rintro e w1 ⟨rfl, hb1⟩
      go_wp2
      go_ret
      exact HE.out _ (hb1.alloc hb1.size _)
    · by_cases hrj : r.join = j
      · obtain ⟨rj, rt, ra⟩ := r
        simp only at hrj ht
        subst hrj
        have hra : ra < M64 := hsm ⟨rj, rt, ra⟩ (by simp)
        have H1 := Lib.hid ht
        have HI := Lib.hid hI
        have HG := Lib.hid hG
        have HT := Lib.hid hT
        have HK := Lib.hid hK
        have HB := Lib.hid hb
        have HO : Hid (wr.ownsRow B 52 3 (.slice (some ⟨g, 0, none⟩) (pre.length + 1) cap) (pre.length + 1) (rowV (pre ++ [⟨rj, rt, ra⟩]))) := Lib.hid (by simpa using hown)
        have hp1 : pre.length ≤ 1000000 := by simp at hr1; omega
        have hp2 : tags.length + 1 + pre.length ≤ 1000000 := by simp at hr2; omega
        have HF : Hid (atGo rj (pre.length + 1) pre ra (tags ++ [rt]) = F) := Lib.hid (by rw [← hF, List.length_append]; exact (atGo_go (r := ⟨rj, rt, ra⟩) rfl).symm)
        have HS : Hid (Small pre) := Lib.hid fun x hx => hsm x (by simp [hx])
        clear hF hI hT hK hb hG hown ht hsm hr1 hr2
        go_wp2_with fail
        with_reducible refine ((H1).out).mono ?_
        rintro e w1 ⟨rfl, hb1⟩
        have k1 := KeepsT.below hb1 []
        have hG2 : Has (w1.alloc (.cells #[.int .i64 rj, .int .i64 rt, .int .u64 (ra : Int)] 52)) G 50 [.slice (some ⟨g, 0, none⟩) (pre.length + 1) cap, .int .u64 lab'] := HG.out.keepsT (k1.alloc _) (by simp)
        have HP := Lib.hid (pop_any B G hBG (.int .u64 lab') g pre.length cap hp1 hcap _ hG2)
        have HB1 := Lib.hid hb1
        clear hG2 k1 hb1
        go_wp2_with fail
        with_reducible refine (HP.out).mono ?_
        rintro e w3 ⟨rfl, hG3, hk3, hb3⟩
        have hbox : Has w3 w1.heap.size 52 [.int .i64 rj, .int .i64 rt, .int .u64 (ra : Int)] := (Has.new w1 _ _).keepsT hk3 (by decide)
        have b1 := hbox.cell 1
        have b2 := hbox.cell 2
        have c3 := hG3.cell 1
        have hl3 := hG3.lt
        have hl4 := hbox.lt
        have f3 := hG3.frozen 1
        have hne := hbox.ne hG3 (by decide)
        simp at c3 b1 b2
        have hO3 : w3.ownsRow B 52 3 (.slice (some ⟨g, 0, none⟩) pre.length cap) pre.length (rowV pre) := by
          have hk : KeepsT [50] wr w3 := ((KeepsT.below HB1.out [50]).alloc _).trans hk3 (fun _ h => h)
          have := own_take (m := pre.length) (own_keepsT HO.out hk (by decide)) (by omega)
          rwa [rowV_take] at this
        have hI3 : IsG w3 B G lab' pre := ⟨_, hG3, hO3, hBG, hlab, HS.out⟩
        obtain ⟨q1, q2, q3⟩ := hI3.label hra
        have HI3 := Lib.hid q1
        have hk : KeepsT [50, 52] wr (w3.setCell ⟨G, 1, none⟩ (.int .u64 (ra : Int))) := (((KeepsT.below HB1.out [50]).alloc _).trans hk3 (fun _ h => h)).mono (by simp) |>.trans q2 (by simp)
        have HK3 := Lib.hid hk
        have hbb : Below B w (w3.setCell ⟨G, 1, none⟩ (.int .u64 (ra : Int))) := ((HB.out.trans ((HB1.out.mono (Nat.le_trans hBw HB.out.size)).alloc (Nat.le_trans (Nat.le_trans hBw HB.out.size) HB1.out.size) _)).trans hb3).trans q3
        have HB3 := Lib.hid hbb
        have HT3 : Hid ((w3.setCell ⟨G, 1, none⟩ (.int .u64 (ra : Int))).ownsRow w.heap.size 3 1 u5 tags.length (intsV tags)) := Lib.hid (own_keepsT HT.out hk (by decide))
        have hsz : w.heap.size ≤ w3.heap.size := by
          have := HK.out.size
          have := hk.size
          simp [World.setCell] at this
          omega
        clear hG3 hO3 hk3 hb3 hI3 q1 q2 q3 hk hbb hbox
        go_wp2_with (at_builtin; refine wpList_append_own _ rfl _ _ 35 rfl w.heap.size 3 i0 (.int .i64 0) 1 8 Try.underlying35 hi hz0 hz1 hz2 rfl (by decide) _ _ _ rfl (HT3.out.alloc _) ⟨w3.heap.size, 0, none⟩ 1 1 [.int .i64 rt] rfl rfl (cell_new1 (by simp [World.setCell])) (by simp [Value.oneCell']) (by unfold maxLen; omega) (by omega) (by simp [World.setCell]; omega) ?_)
        intro v' w5 hown' hgrow _
        have HA : Hid (AtK w B G rj F v' pre ra (tags ++ [rt]) w5) := Lib.hid (by
          have hT4 := HT3.out.alloc (.cells #[.int .i64 rt] 3)
          have kg := (KeepsT.refl [3] _).grown hgrow (fun g hg => .inr (by obtain ⟨cs, hc⟩ := own_row hT4 g hg; exact ⟨_, cs, hc, by simp⟩))
          refine ⟨(HI3.out.alloc _).keeps kg (by decide) (by decide), ?_, ?_, ?_, HF.out, hp1, by simp; omega⟩
          · rw [List.length_append, intsV_snoc]
            exact hown'
          · exact (((HK.out.trans HK3.out (fun _ h => h)).alloc _).grown hgrow (fun g hg => .inl (own_lt hT4 g hg).1))
          · exact (HB3.out.alloc (by simp [World.setCell]; omega) _).grown hgrow (by simp [World.setCell]; omega) (fun g hg => Nat.le_trans hBw (own_lt hT4 g hg).1))
        clear hown' hgrow
        go_wp2
        go_roundw
        case rel => exact ⟨_, _, _, HA.out⟩
        case measure =>
          have h1 := HA.out.1.len
          have h2 := hlen.out
          simp at h2
          omega
      · have HE : Hid (∀ w1, Below wr.heap.size wr w1 → AtIs w B G F (.returned u5) w1) := Lib.hid fun w1 hb1 => by
          rw [← hF, atGo_stop hrj]
          exact ⟨_, rfl, hI.keeps (KeepsT.below hb1 []) (by simp) (by simp), own_keepsT hT (KeepsT.below hb1 []) (by simp), hK.trans (KeepsT.below hb1 _) (fun _ h => h), hb.trans (hb1.mono (Nat.le_trans hBw hK.size))⟩
        have H1 := Lib.hid ht
        have hrb : (r.join != j) = true := by simpa using hrj
        clear hF hI hT hK hb hG hown ht hrj
        go_wp2_with fail
        with_reducible refine ((H1).out).mono ?_
        rintro e w1 ⟨rfl, hb1⟩
        go_wp2
        go_ret
        exact HE.out _ (hb1.alloc hb1.size _)
end GuardD
end Go.Proofs.Ytnlblmdmhfahpaa
