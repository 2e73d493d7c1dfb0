/- label.Show: a label as a text. -/
import Derived.Test.YtlmckgghickahaaDoorLabelIter
import Derived.Test.YtlmckgghickahaaDoorShelf
import Derived.Test.YtlmckgghickahaaDoorStepIn
import Derived.Test.YtlmckgghickahaaDoorLabelText
namespace Go.Proofs.YtlmckgghickahaaDoor
open Go.RowKit Go.Shelf
namespace LabelD
open LabelM
attribute [local go_sem] Oper.semAt_some
theorem infoStr : (Tryd.prog.info? 9).map (fun i => (i.zero, i.size, i.bytes)) = some (some (.string ⟨#[]⟩), 1, 16) := by kernel_rfl
def strsV (ys : List (Fin 64)) : List Value := ys.map fun y => Value.string ⟨(Lib.decDigits y.val).toArray⟩

theorem dec_len (y : Fin 64) : (Lib.decDigits y.val).length ≤ 2 := by
  revert y; decide +kernel
theorem lens_le (ys : List (Fin 64)) : Lib.lens (ys.map fun y => Lib.decDigits y.val) ≤ 2 * ys.length := by
  induction ys with
  | nil => simp [Lib.lens]
  | cons y r ih => have := dec_len y; simp [Lib.lens] at ih ⊢; omega
theorem join_len (ys : List (Fin 64)) : (Lib.join (ys.map fun y => Lib.decDigits y.val) [44]).length ≤ 3 * ys.length := by
  cases ys with
  | nil => simp [Lib.join_nil]
  | cons y r =>
    have h := lens_le (y :: r)
    simp only [List.map_cons] at h ⊢
    rw [Lib.join_length]
    simp at h ⊢
    omega

/-- strings.Join over an owned row of a label's numbers. -/
theorem join_row {L : Nat} {n0 : Nat} (W : World) (v : Value) (hrow : W.ownsRow n0 9 1 v (finsL L).length (strsV (finsL L))) :
    Calls Tryd.prog 30 #[v, .string ⟨#[44]⟩] W fun e W' => e = .returned (.string ⟨(Lib.join ((finsL L).map fun y => Lib.decDigits y.val) [44]).toArray⟩) ∧ Below W.heap.size W W' := by
  have hl64 := finsL_len L
  have hjl := join_len (finsL L)
  obtain ⟨h1, h2⟩ := hrow
  rcases h2 with ⟨rfl, he⟩ | ⟨g, cap, cur, rfl, hb, hgb, hr1, hr2, hr3, hr4⟩
  · refine (Tryd.strings_Join_none none 0 _ W).mono ?_
    rintro e W' ⟨rfl, rfl⟩
    rw [List.length_eq_zero_iff.1 he]
    exact ⟨rfl, Below.refl _ _⟩
  · have hm : ((finsL L).map fun y => Lib.decDigits y.val) = ((finsL L).map fun y => (⟨(Lib.decDigits y.val).toArray⟩ : ByteArray)).map (·.data.toList) := by simp
    have hJ := Tryd.strings_Join g 0 cap ((finsL L).map fun y => (⟨(Lib.decDigits y.val).toArray⟩ : ByteArray)) ⟨#[44]⟩ W ?_ ?_ (by simp; omega) (by simpa using hr1) (by rw [← hm]; simpa using (by omega : (Lib.join ((finsL L).map fun y => Lib.decDigits y.val) [44]).length ≤ 140737488355328))
    · rw [List.length_map] at hJ
      rw [hm]
      exact hJ
    · intro j x hx
      have h9 : (strsV (finsL L))[j]? = some (.string x) := by
        simp only [strsV, List.getElem?_map] at hx ⊢
        cases hq : (finsL L)[j]? with
        | none => rw [hq] at hx; simp at hx
        | some y => rw [hq] at hx; simp at hx ⊢; exact hx
      rw [← hr4] at h9
      have h10 : cur[j]? = some (.string x) := by
        have hlt : j < (finsL L).length * 1 := by
          have := (List.getElem?_eq_some_iff.1 h9).1
          simp at this
          omega
        rw [List.getElem?_take_of_lt hlt] at h9
        simpa using h9
      simp [World.cell?, hgb, h10]
    · exact (Array.getElem?_eq_some_iff.1 hgb).1

set_option maxRecDepth 100000 in
set_option maxHeartbeats 2000000 in
theorem show_in (L : Nat) (hL : L < M64) (w : World) (hT : Bru w) (hg : 0 < w.heap.size) :
    CallsIn Fence.wide 3 Tryd.prog 23 #[.int .u64 L] w fun e W' => e = .returned (.string ⟨(showL L).toArray⟩) ∧ Below w.heap.size w W' := by
  obtain ⟨i0, hi, hz0, hz1, hz2⟩ := info_parts infoStr
  refine callsIn_of_wp_marks Tryd.func23 rfl trivial ?_ rfl
  simp only [Tryd.ntmps23, List.size_toArray, List.length_cons, List.length_nil, Nat.reduceAdd, Nat.reduceSub, Array.replicate_succ, Array.replicate_zero, List.push_toArray, List.append_toArray, List.nil_append, List.cons_append]
  gi_wp2_with (refine ⟨trivial, ?_⟩; gi_at_call 28; refine (members_in _ _ _).mono ?_; rintro e w' ⟨rfl, rfl⟩)
  have bO := Boxed.new w 50 (.slice none 0 0)
  have bN := Boxed.new (w.alloc (.cells #[.slice none 0 0] 50)) 24 (.int .u64 L)
  rw [World.size_alloc] at bN
  have hB0 : Below w.heap.size w ((w.alloc (.cells #[.slice none 0 0] 50)).alloc (.cells #[.int .u64 L] 24)) := ((Below.refl _ w).alloc (Nat.le_refl _) _).alloc (by simp) _
  have hT2 : Bru ((w.alloc (.cells #[.slice none 0 0] 50)).alloc (.cells #[.int .u64 L] 24)) := fun j hj => (hB0.cell (p := ⟨_, j, none⟩) hg).trans (hT j hj)
  have hl64 := finsL_len L
  refine wpIn_rangeFunc_ownG rfl (by omega) (gf := 36) (lb := #[.pointer (some ⟨w.heap.size + 1, 0, none⟩)]) rfl trivial (enters_of Tryd.func36 (by kernel_rfl) rfl)
    (members_stops 2 (by omega) (w.heap.size + 1) w.heap.size L hL _ (by simp) (by simp; omega) hg bN.cell hT2) belowK_t (belowK_b (by simp; omega)) (Below.refl _ _) (fun _ => rfl)
    (fun pre W => (∃ v, Boxed W w.heap.size 50 v ∧ W.ownsRow w.heap.size 9 1 v pre.length (strsV pre) ∧ True) ∧ Below w.heap.size w W)
    (fun _ _ _ => False)
    (OwnFrom.and (Own.from (holdsRow_own w.heap.size w.heap.size 50 9 1 (fun pre => pre.length) (fun pre => strsV pre) (fun _ _ => True)) _) (ownFrom_below (Nat.le_refl _) (by simp; omega)))
    (fun _ _ _ _ _ hs _ _ => hs)
    ⟨⟨_, bO.alloc _, World.ownsRow_nil _ _ _ _, trivial⟩, hB0⟩
    (fun x => { tmps := #[.int .u64 L, undef, .string ⟨#[]⟩, .pointer (some ⟨w.heap.size, 0, none⟩), .int .i64 (x.val : Int), .int .u64 L, .func (.func 36) #[] #[.pointer (some ⟨w.heap.size + 1, 0, none⟩)], .int .i64 (x.val : Int), undef, undef, undef, undef, undef, undef, undef, undef, undef], defers := [] }) ?assign ?body ?done ?stop
  case assign =>
    intro l x W K hK
    gi_wp2
    exact hK
  case body =>
    rintro l pre x W ⟨⟨v, hv, hrow, -⟩, hB⟩ hlt
    have hmx : Tryd.prog.follows .mixedOrders = true := by kernel_rfl
    obtain ⟨S, hS⟩ : ∃ S : ByteArray, ⟨(Lib.decDigits x.val).toArray⟩ = S := ⟨_, rfl⟩
    have hIt := fun W' => Lib.hid (Tryd.strconv_Itoa_small x.val (by omega) W')
    rw [hS] at hIt
    have hS9 := hS
    clear hS
    have hrow1 : ((W.alloc (.cells #[.string S] 9)).drew).ownsRow w.heap.size 9 1 v pre.length (strsV pre) := (hrow.alloc _).drew
    obtain ⟨v', w1, hrun, hown', hgrow, -⟩ := run_append_own (P := Tryd.prog) (w := (W.alloc (.cells #[.string S] 9)).drew) w.heap.size 50 50 9 i0 (.string ⟨#[]⟩) 1 16 Tryd.underlying50 hi hz0 hz1 hz2 rfl (by decide) v pre.length (strsV pre) hrow1 ⟨W.heap.size, 0, none⟩ 1 1 [.string S] rfl (cell_one_new _ _ _) (by simp [Value.oneCell']) (by unfold maxLen; omega) (by omega) (by have := hB.size; simp; omega)
    obtain ⟨g', cap', rfl⟩ := ownsRow_succ hown'
    have hgrow2 : (W.alloc (.cells #[.string S] 9)).grownBy w1 v.ownBlock := ⟨hgrow.os, hgrow.tape, hgrow.output, hgrow.size, hgrow.block⟩
    obtain ⟨hv1, hv2, hr2, hk2, hb2⟩ := hv.appended (by decide) hrow hB.size (Nat.le_refl _) hown' hgrow2
    have hc := hv.cell
    have hc1 := hv1.cell
    have hf1 := hv1.frozen
    have hcA := (hv.alloc (.cells #[.string S] 9)).cell
    have hd : 1 ≤ 3 - 1 - 1 := by omega
    gi_wp2
    refine wpIn_region_any (by kernel_rfl) ?_
    change wpAnyIn _ _ _ _ _ _ _ _ _ (World.drew _)
    refine wpAnyIn_ready (rs := [0, 1]) (by kernel_rfl) (by simp) ?_
    refine AllReadyIn.cons rfl (fun K hK => ?_) (AllReadyIn.cons rfl (fun K hK => ?_) AllReadyIn.nil)
    · go_simp
      refine hK _ _ ?_
      clear hK K
      refine wpAnyIn_ready (rs := [1]) (by kernel_rfl) (by simp) ?_
      refine AllReadyIn.cons rfl (fun K hK => ?_) AllReadyIn.nil
      go_simp
      refine hK _ _ ?_
      clear hK K
      refine wpAnyIn_ready (rs := [2]) (by kernel_rfl) (by simp) ?_
      refine AllReadyIn.cons rfl (fun K hK => ?_) AllReadyIn.nil
      go_simp
      gi_wp2_with (refine ⟨trivial, ?_⟩; gi_at_call 29; refine (CallsIn.inRound l (callsIn_wide.2 (hIt _).out)).mono ?_; rintro e w' ⟨rfl, rfl⟩)
      refine wpAnyIn_ready (rs := [3]) (by kernel_rfl) (by simp) ?_
      refine AllReadyIn.cons rfl (fun K hK => ?_) AllReadyIn.nil
      go_simp
      refine hK _ _ ?_
      clear hK K
      refine wpAnyIn_ready (rs := [4]) (by kernel_rfl) (by simp) ?_
      refine AllReadyIn.cons rfl (fun K hK => ?_) AllReadyIn.nil
      refine step_append_own_in rfl (.tmp 8) (.tmp 11) 50 rfl _ _ _ _ rfl rfl hrun ?_
      refine hK _ _ ?_
      clear hK K
      refine wpAnyIn_ready (rs := [5]) (by kernel_rfl) (by simp) ?_
      refine AllReadyIn.cons rfl (fun K hK => ?_) AllReadyIn.nil
      go_simp
      refine hK _ _ ?_
      clear hK K
      refine wpAnyIn_done (by kernel_rfl) ?_ _
      gi_wp2
      exact ⟨hk2.from _, hb2, ⟨_, hv2, by have h9 := hr2; rw [← hS9] at h9; simpa [strsV] using h9, trivial⟩, hB.trans hb2⟩
    · go_simp
      refine hK _ _ ?_
      clear hK K
      refine wpAnyIn_ready (rs := [0, 2]) (by kernel_rfl) (by simp) ?_
      refine AllReadyIn.cons rfl (fun K hK => ?_) (AllReadyIn.cons rfl (fun K hK => ?_) AllReadyIn.nil)
      · go_simp
        refine hK _ _ ?_
        clear hK K
        refine wpAnyIn_ready (rs := [2]) (by kernel_rfl) (by simp) ?_
        refine AllReadyIn.cons rfl (fun K hK => ?_) AllReadyIn.nil
        go_simp
        gi_wp2_with (refine ⟨trivial, ?_⟩; gi_at_call 29; refine (CallsIn.inRound l (callsIn_wide.2 (hIt _).out)).mono ?_; rintro e w' ⟨rfl, rfl⟩)
        refine wpAnyIn_ready (rs := [3]) (by kernel_rfl) (by simp) ?_
        refine AllReadyIn.cons rfl (fun K hK => ?_) AllReadyIn.nil
        go_simp
        refine hK _ _ ?_
        clear hK K
        refine wpAnyIn_ready (rs := [4]) (by kernel_rfl) (by simp) ?_
        refine AllReadyIn.cons rfl (fun K hK => ?_) AllReadyIn.nil
        refine step_append_own_in rfl (.tmp 8) (.tmp 11) 50 rfl _ _ _ _ rfl rfl hrun ?_
        refine hK _ _ ?_
        clear hK K
        refine wpAnyIn_ready (rs := [5]) (by kernel_rfl) (by simp) ?_
        refine AllReadyIn.cons rfl (fun K hK => ?_) AllReadyIn.nil
        go_simp
        refine hK _ _ ?_
        clear hK K
        refine wpAnyIn_done (by kernel_rfl) ?_ _
        gi_wp2
        exact ⟨hk2.from _, hb2, ⟨_, hv2, by have h9 := hr2; rw [← hS9] at h9; simpa [strsV] using h9, trivial⟩, hB.trans hb2⟩
      · go_simp
        gi_wp2_with (refine ⟨trivial, ?_⟩; gi_at_call 29; refine (CallsIn.inRound l (callsIn_wide.2 (hIt _).out)).mono ?_; rintro e w' ⟨rfl, rfl⟩)
        refine wpAnyIn_ready (rs := [0, 3]) (by kernel_rfl) (by simp) ?_
        refine AllReadyIn.cons rfl (fun K hK => ?_) (AllReadyIn.cons rfl (fun K hK => ?_) AllReadyIn.nil)
        · go_simp
          refine hK _ _ ?_
          clear hK K
          refine wpAnyIn_ready (rs := [3]) (by kernel_rfl) (by simp) ?_
          refine AllReadyIn.cons rfl (fun K hK => ?_) AllReadyIn.nil
          go_simp
          refine hK _ _ ?_
          clear hK K
          refine wpAnyIn_ready (rs := [4]) (by kernel_rfl) (by simp) ?_
          refine AllReadyIn.cons rfl (fun K hK => ?_) AllReadyIn.nil
          refine step_append_own_in rfl (.tmp 8) (.tmp 11) 50 rfl _ _ _ _ rfl rfl hrun ?_
          refine hK _ _ ?_
          clear hK K
          refine wpAnyIn_ready (rs := [5]) (by kernel_rfl) (by simp) ?_
          refine AllReadyIn.cons rfl (fun K hK => ?_) AllReadyIn.nil
          go_simp
          refine hK _ _ ?_
          clear hK K
          refine wpAnyIn_done (by kernel_rfl) ?_ _
          gi_wp2
          exact ⟨hk2.from _, hb2, ⟨_, hv2, by have h9 := hr2; rw [← hS9] at h9; simpa [strsV] using h9, trivial⟩, hB.trans hb2⟩
        · go_simp
          refine hK _ _ ?_
          clear hK K
          refine wpAnyIn_ready (rs := [0]) (by kernel_rfl) (by simp) ?_
          refine AllReadyIn.cons rfl (fun K hK => ?_) AllReadyIn.nil
          go_simp
          refine hK _ _ ?_
          clear hK K
          refine wpAnyIn_ready (rs := [4]) (by kernel_rfl) (by simp) ?_
          refine AllReadyIn.cons rfl (fun K hK => ?_) AllReadyIn.nil
          refine step_append_own_in rfl (.tmp 8) (.tmp 11) 50 rfl _ _ _ _ rfl rfl hrun ?_
          refine hK _ _ ?_
          clear hK K
          refine wpAnyIn_ready (rs := [5]) (by kernel_rfl) (by simp) ?_
          refine AllReadyIn.cons rfl (fun K hK => ?_) AllReadyIn.nil
          go_simp
          refine hK _ _ ?_
          clear hK K
          refine wpAnyIn_done (by kernel_rfl) ?_ _
          gi_wp2
          exact ⟨hk2.from _, hb2, ⟨_, hv2, by have h9 := hr2; rw [← hS9] at h9; simpa [strsV] using h9, trivial⟩, hB.trans hb2⟩
  case done =>
    rintro D ys W hD rfl ⟨⟨v, hv, hrow, -⟩, hB⟩ hK
    have hc := hv.cell
    have hJ := join_row (L := L) W v hrow
    have hjl := join_len (finsL L)
    obtain ⟨J, hJe⟩ : ∃ J, Lib.join ((finsL L).map fun y => Lib.decDigits y.val) [44] = J := ⟨_, rfl⟩
    rw [hJe] at hJ hjl
    gi_wp2_with (refine ⟨trivial, ?_⟩; gi_at_call 30; refine (callsIn_wide.2 hJ).mono ?_; rintro e w' ⟨rfl, hb⟩)
    have hD2 := (Array.getElem?_eq_some_iff.1 hK).1
    have hK2 := (hb.block D hD2).trans hK
    have hbW := hb.mono hB.size
    refine ⟨by simp, .inl ⟨_, _, rfl, run_takeDeferred hK2, ?_⟩⟩
    refine ⟨_, results_tmp rfl _ _ _, ?_, (hB.trans hbW).trans (belowK_b (w := w) (Nat.le_refl _) w' D _ _ (by simp at hD; omega) hK2 rfl rfl)⟩
    show Ending.returned (.string (⟨#[123]⟩ ++ ⟨J.toArray⟩ ++ ⟨#[125]⟩)) = _
    congr 2
    simp only [showL, hJe]
    ext1
    simp
  case stop =>
    rintro D c pre W _ _ h _
    exact h.elim
end LabelD
end Go.Proofs.YtlmckgghickahaaDoor
