/- The program's Walk, whole. -/
import Derived.Test.YtakdmlaecidjaaaGreatDoorTck24
import Derived.Test.YtakdmlaecidjaaaGreatDoorRegE
namespace Go.Proofs.YtakdmlaecidjaaaGreatDoor
open Go.RowKit Go.Shelf ObjM RoundM
namespace TreeD
attribute [local go_sem] Oper.semAt_some

noncomputable def ordV (l : List Nd) : List Int := if (checkV l).2 = 0 then (walkV l).map (·.1) else []
noncomputable def dpV (l : List Nd) : List Int := if (checkV l).2 = 0 then (walkV l).map (·.2) else []
/-- What Walk answers. -/
def WalkFn (l : List Nd) (w : World) (e : Ending) (W' : World) : Prop :=
  ∃ Bo Bd v u, e = .returned (.func (.func 20) #[] #[.pointer (some ⟨Bo, 0, none⟩), .pointer (some ⟨Bd, 0, none⟩)]) ∧ Two w W' Bo Bd v u v u (ordV l) (dpV l)
theorem slice_of_row {w : World} {B k : Nat} {t : TypeId} {v : Value} {xs : List Value} (h : w.ownsRow B t 1 v k xs) : ∃ a n c, v = .slice a n c := by
  rcases own_shape h with ⟨rfl, -, -⟩ | ⟨g, cap, cs, rfl, -⟩
  · exact ⟨_, _, _, rfl⟩
  · exact ⟨_, _, _, rfl⟩
theorem two_start (w w1 : World) (x : Value) (h : Below w.heap.size w w1) : Two w (((w1.alloc (.cells #[.slice none 0 0] 30)).alloc (.cells #[.slice none 0 0] 30)).alloc (.cells #[x] 22)) w1.heap.size (w1.heap.size + 1) (.slice none 0 0) (.slice none 0 0) (.slice none 0 0) (.slice none 0 0) [] [] ∧
    Has (((w1.alloc (.cells #[.slice none 0 0] 30)).alloc (.cells #[.slice none 0 0] 30)).alloc (.cells #[x] 22)) (w1.heap.size + 1 + 1) 22 [x] := by
  have b1 := Has.new w1 30 [.slice none 0 0]
  have b2 := Has.new (w1.alloc (.cells #[.slice none 0 0] 30)) 30 [.slice none 0 0]
  have b3 := Has.new ((w1.alloc (.cells #[.slice none 0 0] 30)).alloc (.cells #[.slice none 0 0] 30)) 22 [x]
  simp only [World.size_alloc] at b2 b3
  have hs := h.size
  refine ⟨⟨((h.alloc hs _).alloc (by simp; omega) _).alloc (by simp; omega) _, (b1.keeps (Keeps.alloc [] _ _) (by simp)).keeps (Keeps.alloc [] _ _) (by simp), b2.keeps (Keeps.alloc [] _ _) (by simp), World.ownsRow_nil _ _ _ _, World.ownsRow_nil _ _ _ _, (fun g e => by cases e), hs, by omega, by omega⟩, b3⟩
set_option maxRecDepth 100000 in
set_option maxHeartbeats 16000000 in
theorem walk_yes (l : List Nd) (lv : Value) (w : World) (hl5 : l.length ≤ 50000) (hokl : ∀ n ∈ l, NdOk n) (hkl : ∀ n ∈ l, n.kids.length < 1000000) (hS : Still w lv l) (hok0 : (checkV l).2 = 0) :
    CallsIn Fence.wide 3 Tryz.prog 12 #[lv] w (WalkFn l w) := by
  obtain ⟨al, cl, rfl⟩ := hS.nds.shape
  have HCk := Lib.hid (check_any l _ w hl5 hokl hkl hS)
  obtain ⟨m, hm⟩ : ∃ m, l.length = m := ⟨_, rfl⟩
  have hnds := hS.nds
  have hcap := hS.cap
  clear hS hokl
  rw [hm] at HCk hnds hcap ⊢
  obtain ⟨ec, hec⟩ : ∃ ec, (checkV l).2 = ec := ⟨_, rfl⟩
  have hok := hok0
  rw [hec] at hok
  clear hok0
  have HP := Lib.hid (⟨hm, by omega, .inr (tree_of (hec.trans hok)), hkl, hnds, hcap⟩ : l.length = m ∧ m ≤ 50000 ∧ TreeOr l ∧ (∀ n ∈ l, n.kids.length < 1000000) ∧ NdsAt w (.slice al m cl) l ∧ CapOk w (.slice al m cl) l)
  have HV : Hid ((walkV l).map (·.1) = ordV l ∧ (walkV l).map (·.2) = dpV l) := Lib.hid (by
    unfold ordV dpV
    rw [if_pos (hec.trans hok), if_pos (hec.trans hok)]
    exact ⟨rfl, rfl⟩)
  have HLen : Hid ((walkV l).length ≤ 50000) := Lib.hid (by rw [walk_len (tree_of (hec.trans hok))]; exact hl5)
  subst hok
  clear hm hnds hcap hkl hl5
  refine callsIn_of_wp_marks Tryz.func12 rfl trivial ?_ rfl
  simp only [Tryz.ntmps12, List.size_toArray, List.length_cons, List.length_nil, Nat.reduceAdd, Nat.reduceSub, Array.replicate_succ, Array.replicate_zero, List.push_toArray, List.append_toArray, List.nil_append, List.cons_append]
  gi_wp2_with fail
  refine ⟨trivial, ?_⟩
  refine (callsIn_wide.2 HCk.out).mono ?_
  rintro e w1 ⟨rfl, hb1⟩
  generalize (checkV l).1 = c1
  rw [hec]
  have HB1 := Lib.hid hb1
  clear HCk hec hb1
  gi_wp2_with fail
  refine ⟨trivial, ?_⟩
  refine (preorder_in _ _ _ _ _).mono ?_
  rintro e w2 ⟨rfl, rfl⟩
  gi_wp2
  obtain ⟨T0, hBl⟩ := two_start w w1 (.slice al m cl) HB1.out
  have hs1 := HB1.out.size
  have hsz : w1.heap.size + 1 + 1 + 1 = (((w1.alloc (.cells #[.slice none 0 0] 30)).alloc (.cells #[.slice none 0 0] 30)).alloc (.cells #[.slice al m cl] 22)).heap.size := by simp
  change Code.wpIn _ _ _ _ _ _ (World.alloc (World.alloc (World.alloc w1 _) _) _)
  generalize World.alloc (World.alloc (World.alloc w1 _) _) _ = w3 at T0 hBl hsz ⊢
  refine wpIn_rangeFunc_ownG rfl (by omega) (gf := 26) (lb := #[.pointer (some ⟨w1.heap.size + 1 + 1, 0, none⟩)]) rfl trivial (enters_of Tryz.func26 (by kernel_rfl) rfl)
    (pre_stops 2 (w1.heap.size + 1 + 1) _ _ _ w w3 _ HP.out.1 HP.out.2.1 HP.out.2.2.1 HP.out.2.2.2.1 HP.out.2.2.2.2.1 HP.out.2.2.2.2.2 T0.b hBl) (fun h k => kpw_t h k) (kpw_b (by omega)) (Below.refl _ _) (fun _ => rfl)
    (fun pre W => ∃ v u, Two w W w1.heap.size (w1.heap.size + 1) v u v u (pre.map (·.1)) (pre.map (·.2)))
    (fun _ _ _ => False)
    (fun s W W' row hs hg hr => by obtain ⟨v, u, h⟩ := hs; exact ⟨v, u, h.noncell hg (fun r e => ⟨by have := (hr r e).1; omega, (hr r e).2⟩)⟩)
    (fun _ _ _ _ _ hs _ _ => hs)
    ⟨_, _, T0⟩ ?a1 ?assign ?body ?done ?stop
  case assign =>
    intro lp x W K hK
    unfold encP
    gi_wp2
    exact hK
  case body =>
    rintro lp pre x W ⟨v, u, hT⟩ hlt
    clear T0 hBl hsz HB1 HV
    have hT0 := hT.keeps (Keeps.drew [] W)
    have hR0 := Rd.drew (n₀ := w.heap.size) W
    have hpl : pre.length ≤ 50000 := by have := HLen.out; omega
    clear hlt hT
    gi_wp2
    refine region_E_round (S := S2 0 (fun W' => W'.cell? ⟨w1.heap.size, 0, none⟩ = some v) 4 (fun W' => W'.cell? ⟨w1.heap.size + 1, 0, none⟩ = some u)) (by kernel_rfl) (by kernel_rfl) (by rintro ⟨_, _, h⟩; exact h) ?_
    generalize World.drew W = W0 at hT0 hR0 ⊢
    have HR0 := Lib.hid hR0
    have c0 := hT0.o.cell 0
    have c4 := hT0.d.cell 0
    simp only [List.getElem?_cons_zero] at c0 c4
    clear hR0
    refine wpAnyE_take (i := 0) (oi := { dst := some 20, op := Op.load 30 (.tmp 5), type := _, pos := _, after := _, guard := _ }) (v := v) rfl (by kernel_rfl) (by kernel_rfl) (by kernel_rfl) (fun _ _ _ h => h) (Or.inl ⟨by rfl, ?_⟩) ⟨fun _ => c0, fun e => by omega⟩ ?_
    · intro w' hs
      have s0 := hs.1 rfl
      go_simp
    try simp only [Act.put, List.setIfInBounds_toArray, List.set_cons_zero, List.set_cons_succ]
    refine wpAnyE_take (i := 1) (oi := { dst := some 21, op := Op.move (.tmp 7), type := _, pos := _, after := _, guard := _ }) (v := .int .i64 x.1) rfl (by kernel_rfl) (by kernel_rfl) (by kernel_rfl) (fun _ _ _ h => h) (Or.inl ⟨by rfl, ?_⟩) ⟨fun e => by omega, fun e => by omega⟩ ?_
    · intro w' hs
      clear hs
      go_simp
    try simp only [Act.put, List.setIfInBounds_toArray, List.set_cons_zero, List.set_cons_succ]
    refine wpAnyE_take (i := 4) (oi := { dst := some 24, op := Op.load 30 (.tmp 6), type := _, pos := _, after := _, guard := _ }) (v := u) rfl (by kernel_rfl) (by kernel_rfl) (by kernel_rfl) (fun _ _ _ h => h) (Or.inl ⟨by rfl, ?_⟩) ⟨fun e => by omega, fun _ => c4⟩ ?_
    · intro w' hs
      have s0 := hs.2 rfl
      go_simp
    try simp only [Act.put, List.setIfInBounds_toArray, List.set_cons_zero, List.set_cons_succ]
    refine wpAnyE_take (i := 5) (oi := { dst := some 25, op := Op.move (.tmp 8), type := _, pos := _, after := _, guard := _ }) (v := .int .i64 x.2) rfl (by kernel_rfl) (by kernel_rfl) (by kernel_rfl) (fun _ _ _ h => h) (Or.inl ⟨by rfl, ?_⟩) ⟨fun e => by omega, fun e => by omega⟩ ?_
    · intro w' hs
      clear hs
      go_simp
    try simp only [Act.put, List.setIfInBounds_toArray, List.set_cons_zero, List.set_cons_succ]
    refine wpAnyE_ready (rs := [2, 6]) (by kernel_rfl) (by simp) ?_
    refine AllReadyE.cons (o := { dst := some 22, op := Op.buildSlice 30 1 #[(0, .tmp 21)], type := _, pos := _, after := _, guard := _ }) rfl (fun K hK => ?_) ?_
    · have T1 := hT0.keeps (Keeps.alloc [] _ (.cells #[.int .i64 x.1] 3))
      have HT1 : Hid ((W0.alloc (.cells #[.int .i64 x.1] 3)).cell? ⟨W0.heap.size, 0, none⟩ = some (.int .i64 x.1)) := Lib.hid (by have h := (Has.new W0 3 [.int .i64 x.1]).cell 0; exact h)
      have RT1 := Lib.hid (HR0.out.trans (Rd.alloc W0 hT0.b.size (.cells #[.int .i64 x.1] 3)))
      go_simp
      refine hK.out _ _ (pres2 (.inr fun _ => T1.o.cell 0) (.inr fun _ => T1.d.cell 0)) ?_
      clear hK K
      try simp only [Act.put, List.setIfInBounds_toArray, List.set_cons_zero, List.set_cons_succ]
      refine wpAnyE_ready (rs := [3, 6]) (by kernel_rfl) (by simp) ?_
      refine AllReadyE.cons (o := { dst := some 23, op := Op.call { callee := .builtin .append, args := #[.tmp 20, .tmp 22], argTypes := _ }, type := _, pos := _, after := _, guard := _ }) rfl (fun K hK => ?_) ?_
      · obtain ⟨v2, W2, hrun2, T2, P2, G2⟩ := T1.pushO x.1 (by simp; omega) (W0.heap.size) 1 HT1.out
        have RT2 := Lib.hid (RT1.out.trans P2)
        refine step_append_own rfl (.tmp 20) (.tmp 22) 30 rfl _ _ _ _ rfl rfl hrun2 ?_
        refine hK.out _ _ (pres2 (.inr fun _ => T2.o.cell 0) (.inr fun _ => T2.d.cell 0)) ?_
        clear hK K hrun2 G2 P2
        try simp only [Act.put, List.setIfInBounds_toArray, List.set_cons_zero, List.set_cons_succ]
        refine wpAnyE_ready (rs := [6]) (by kernel_rfl) (by simp) ?_
        refine AllReadyE.cons (o := { dst := some 26, op := Op.buildSlice 30 1 #[(0, .tmp 25)], type := _, pos := _, after := _, guard := _ }) rfl (fun K hK => ?_) AllReadyE.nil
        have T3 := T2.keeps (Keeps.alloc [] _ (.cells #[.int .i64 x.2] 3))
        have HT3 : Hid ((W2.alloc (.cells #[.int .i64 x.2] 3)).cell? ⟨W2.heap.size, 0, none⟩ = some (.int .i64 x.2)) := Lib.hid (by have h := (Has.new W2 3 [.int .i64 x.2]).cell 0; exact h)
        have RT3 := Lib.hid (RT2.out.trans (Rd.alloc W2 T2.b.size (.cells #[.int .i64 x.2] 3)))
        go_simp
        refine hK.out _ _ (pres2 (.inr fun _ => T3.o.cell 0) (.inr fun _ => T3.d.cell 0)) ?_
        clear hK K
        try simp only [Act.put, List.setIfInBounds_toArray, List.set_cons_zero, List.set_cons_succ]
        refine wpAnyE_ready (rs := [7]) (by kernel_rfl) (by simp) ?_
        refine AllReadyE.cons (o := { dst := some 27, op := Op.call { callee := .builtin .append, args := #[.tmp 24, .tmp 26], argTypes := _ }, type := _, pos := _, after := _, guard := _ }) rfl (fun K hK => ?_) AllReadyE.nil
        obtain ⟨u2, W4, hrun4, T4, P4, G4⟩ := T3.pushD x.2 (by simp; omega) (W2.heap.size) 1 HT3.out
        have RT4 := Lib.hid (RT3.out.trans P4)
        refine step_append_own rfl (.tmp 24) (.tmp 26) 30 rfl _ _ _ _ rfl rfl hrun4 ?_
        refine hK.out _ _ (pres2 (.inr fun _ => T4.o.cell 0) (.inr fun _ => T4.d.cell 0)) ?_
        clear hK K hrun4 G4 P4
        try simp only [Act.put, List.setIfInBounds_toArray, List.set_cons_zero, List.set_cons_succ]
        refine wpAnyE_ready (rs := [8]) (by kernel_rfl) (by simp) ?_
        refine AllReadyE.cons (o := { dst := none, op := Op.store 30 (.tmp 5) (.tmp 23), type := _, pos := _, after := _, guard := _ }) rfl (fun K hK => ?_) AllReadyE.nil
        have o1 := T4.o.cell 0
        have o2 := T4.o.frozen 0
        have o3 := T4.o.lt
        simp only [List.getElem?_cons_zero] at o1
        have dd := T4.d.keeps (Keeps.set W4 w1.heap.size 0 v2) (by simp)
        obtain ⟨va, vn, vc, rfl⟩ := slice_of_row T4.r
        go_simp
        refine hK.out _ _ (pres2 (.inl (by kernel_rfl)) (.inr fun _ => dd.cell 0)) ?_
        clear hK K
        try simp only [Act.put, List.setIfInBounds_toArray, List.set_cons_zero, List.set_cons_succ]
        refine wpAnyE_ready (rs := [9]) (by kernel_rfl) (by simp) ?_
        refine AllReadyE.cons (o := { dst := none, op := Op.store 30 (.tmp 6) (.tmp 27), type := _, pos := _, after := _, guard := _ }) rfl (fun K hK => ?_) AllReadyE.nil
        have d1 := dd.cell 0
        have d2 := dd.frozen 0
        have d3 := dd.lt
        simp only [List.getElem?_cons_zero] at d1
        obtain ⟨ua, un, uc, rfl⟩ := slice_of_row T4.s
        go_simp
        refine hK.out _ _ (pres2 (.inl (by kernel_rfl)) (.inl (by kernel_rfl))) ?_
        clear hK K
        refine wpAnyE_done (by kernel_rfl) ?_ _
        obtain ⟨TF, RF⟩ := T4.stores
        have RR := RT4.out.trans RF
        exact ⟨RR.1.from _, RR.2, _, _, by simpa using TF⟩
      refine AllReadyE.cons (o := { dst := some 26, op := Op.buildSlice 30 1 #[(0, .tmp 25)], type := _, pos := _, after := _, guard := _ }) rfl (fun K hK => ?_) AllReadyE.nil
      have T2 := T1.keeps (Keeps.alloc [] _ (.cells #[.int .i64 x.2] 3))
      have HC2 : Hid (((W0.alloc (.cells #[.int .i64 x.1] 3)).alloc (.cells #[.int .i64 x.2] 3)).cell? ⟨W0.heap.size, 0, none⟩ = some (.int .i64 x.1)) := Lib.hid ((World.cell?_alloc_lt (W0.alloc (.cells #[.int .i64 x.1] 3)) (.cells #[.int .i64 x.2] 3) ⟨W0.heap.size, 0, none⟩ (World.block_lt_of_cell? _ _ HT1.out)).trans HT1.out)
      have HT2 : Hid (((W0.alloc (.cells #[.int .i64 x.1] 3)).alloc (.cells #[.int .i64 x.2] 3)).cell? ⟨W0.heap.size + 1, 0, none⟩ = some (.int .i64 x.2)) := Lib.hid (by have h := (Has.new (W0.alloc (.cells #[.int .i64 x.1] 3)) 3 [.int .i64 x.2]).cell 0; rwa [World.size_alloc] at h)
      have RT2 := Lib.hid (RT1.out.trans (Rd.alloc (W0.alloc (.cells #[.int .i64 x.1] 3)) T1.b.size (.cells #[.int .i64 x.2] 3)))
      go_simp
      refine hK.out _ _ (pres2 (.inr fun _ => T2.o.cell 0) (.inr fun _ => T2.d.cell 0)) ?_
      clear hK K
      try simp only [Act.put, List.setIfInBounds_toArray, List.set_cons_zero, List.set_cons_succ]
      refine wpAnyE_ready (rs := [3]) (by kernel_rfl) (by simp) ?_
      refine AllReadyE.cons (o := { dst := some 23, op := Op.call { callee := .builtin .append, args := #[.tmp 20, .tmp 22], argTypes := _ }, type := _, pos := _, after := _, guard := _ }) rfl (fun K hK => ?_) AllReadyE.nil
      obtain ⟨v2, W3, hrun3, T3, P3, G3⟩ := T2.pushO x.1 (by simp; omega) (W0.heap.size) 1 HC2.out
      have RT3 := Lib.hid (RT2.out.trans P3)
      have HC3 : Hid (W3.cell? ⟨W0.heap.size + 1, 0, none⟩ = some (.int .i64 x.2)) := Lib.hid ((cell_same (G3.block _ (by first | (simp; done) | (simp; omega)) (fun e => by have := (own_lt hT0.r _ e.symm).2; omega)) 0).trans HT2.out)
      refine step_append_own rfl (.tmp 20) (.tmp 22) 30 rfl _ _ _ _ rfl rfl hrun3 ?_
      refine hK.out _ _ (pres2 (.inr fun _ => T3.o.cell 0) (.inr fun _ => T3.d.cell 0)) ?_
      clear hK K hrun3 G3 P3
      try simp only [Act.put, List.setIfInBounds_toArray, List.set_cons_zero, List.set_cons_succ]
      refine wpAnyE_ready (rs := [7]) (by kernel_rfl) (by simp) ?_
      refine AllReadyE.cons (o := { dst := some 27, op := Op.call { callee := .builtin .append, args := #[.tmp 24, .tmp 26], argTypes := _ }, type := _, pos := _, after := _, guard := _ }) rfl (fun K hK => ?_) AllReadyE.nil
      obtain ⟨u2, W4, hrun4, T4, P4, G4⟩ := T3.pushD x.2 (by simp; omega) (W0.heap.size + 1) 1 HC3.out
      have RT4 := Lib.hid (RT3.out.trans P4)
      refine step_append_own rfl (.tmp 24) (.tmp 26) 30 rfl _ _ _ _ rfl rfl hrun4 ?_
      refine hK.out _ _ (pres2 (.inr fun _ => T4.o.cell 0) (.inr fun _ => T4.d.cell 0)) ?_
      clear hK K hrun4 G4 P4
      try simp only [Act.put, List.setIfInBounds_toArray, List.set_cons_zero, List.set_cons_succ]
      refine wpAnyE_ready (rs := [8]) (by kernel_rfl) (by simp) ?_
      refine AllReadyE.cons (o := { dst := none, op := Op.store 30 (.tmp 5) (.tmp 23), type := _, pos := _, after := _, guard := _ }) rfl (fun K hK => ?_) AllReadyE.nil
      have o1 := T4.o.cell 0
      have o2 := T4.o.frozen 0
      have o3 := T4.o.lt
      simp only [List.getElem?_cons_zero] at o1
      have dd := T4.d.keeps (Keeps.set W4 w1.heap.size 0 v2) (by simp)
      obtain ⟨va, vn, vc, rfl⟩ := slice_of_row T4.r
      go_simp
      refine hK.out _ _ (pres2 (.inl (by kernel_rfl)) (.inr fun _ => dd.cell 0)) ?_
      clear hK K
      try simp only [Act.put, List.setIfInBounds_toArray, List.set_cons_zero, List.set_cons_succ]
      refine wpAnyE_ready (rs := [9]) (by kernel_rfl) (by simp) ?_
      refine AllReadyE.cons (o := { dst := none, op := Op.store 30 (.tmp 6) (.tmp 27), type := _, pos := _, after := _, guard := _ }) rfl (fun K hK => ?_) AllReadyE.nil
      have d1 := dd.cell 0
      have d2 := dd.frozen 0
      have d3 := dd.lt
      simp only [List.getElem?_cons_zero] at d1
      obtain ⟨ua, un, uc, rfl⟩ := slice_of_row T4.s
      go_simp
      refine hK.out _ _ (pres2 (.inl (by kernel_rfl)) (.inl (by kernel_rfl))) ?_
      clear hK K
      refine wpAnyE_done (by kernel_rfl) ?_ _
      obtain ⟨TF, RF⟩ := T4.stores
      have RR := RT4.out.trans RF
      exact ⟨RR.1.from _, RR.2, _, _, by simpa using TF⟩
    refine AllReadyE.cons (o := { dst := some 26, op := Op.buildSlice 30 1 #[(0, .tmp 25)], type := _, pos := _, after := _, guard := _ }) rfl (fun K hK => ?_) AllReadyE.nil
    have T1 := hT0.keeps (Keeps.alloc [] _ (.cells #[.int .i64 x.2] 3))
    have HT1 : Hid ((W0.alloc (.cells #[.int .i64 x.2] 3)).cell? ⟨W0.heap.size, 0, none⟩ = some (.int .i64 x.2)) := Lib.hid (by have h := (Has.new W0 3 [.int .i64 x.2]).cell 0; exact h)
    have RT1 := Lib.hid (HR0.out.trans (Rd.alloc W0 hT0.b.size (.cells #[.int .i64 x.2] 3)))
    go_simp
    refine hK.out _ _ (pres2 (.inr fun _ => T1.o.cell 0) (.inr fun _ => T1.d.cell 0)) ?_
    clear hK K
    try simp only [Act.put, List.setIfInBounds_toArray, List.set_cons_zero, List.set_cons_succ]
    refine wpAnyE_ready (rs := [2]) (by kernel_rfl) (by simp) ?_
    refine AllReadyE.cons (o := { dst := some 22, op := Op.buildSlice 30 1 #[(0, .tmp 21)], type := _, pos := _, after := _, guard := _ }) rfl (fun K hK => ?_) AllReadyE.nil
    have T2 := T1.keeps (Keeps.alloc [] _ (.cells #[.int .i64 x.1] 3))
    have HC2 : Hid (((W0.alloc (.cells #[.int .i64 x.2] 3)).alloc (.cells #[.int .i64 x.1] 3)).cell? ⟨W0.heap.size, 0, none⟩ = some (.int .i64 x.2)) := Lib.hid ((World.cell?_alloc_lt (W0.alloc (.cells #[.int .i64 x.2] 3)) (.cells #[.int .i64 x.1] 3) ⟨W0.heap.size, 0, none⟩ (World.block_lt_of_cell? _ _ HT1.out)).trans HT1.out)
    have HT2 : Hid (((W0.alloc (.cells #[.int .i64 x.2] 3)).alloc (.cells #[.int .i64 x.1] 3)).cell? ⟨W0.heap.size + 1, 0, none⟩ = some (.int .i64 x.1)) := Lib.hid (by have h := (Has.new (W0.alloc (.cells #[.int .i64 x.2] 3)) 3 [.int .i64 x.1]).cell 0; rwa [World.size_alloc] at h)
    have RT2 := Lib.hid (RT1.out.trans (Rd.alloc (W0.alloc (.cells #[.int .i64 x.2] 3)) T1.b.size (.cells #[.int .i64 x.1] 3)))
    go_simp
    refine hK.out _ _ (pres2 (.inr fun _ => T2.o.cell 0) (.inr fun _ => T2.d.cell 0)) ?_
    clear hK K
    try simp only [Act.put, List.setIfInBounds_toArray, List.set_cons_zero, List.set_cons_succ]
    refine wpAnyE_ready (rs := [3]) (by kernel_rfl) (by simp) ?_
    refine AllReadyE.cons (o := { dst := some 23, op := Op.call { callee := .builtin .append, args := #[.tmp 20, .tmp 22], argTypes := _ }, type := _, pos := _, after := _, guard := _ }) rfl (fun K hK => ?_) AllReadyE.nil
    obtain ⟨v2, W3, hrun3, T3, P3, G3⟩ := T2.pushO x.1 (by simp; omega) (W0.heap.size + 1) 1 HT2.out
    have RT3 := Lib.hid (RT2.out.trans P3)
    have HC3 : Hid (W3.cell? ⟨W0.heap.size, 0, none⟩ = some (.int .i64 x.2)) := Lib.hid ((cell_same (G3.block _ (by first | (simp; done) | (simp; omega)) (fun e => by have := (own_lt hT0.r _ e.symm).2; omega)) 0).trans HC2.out)
    refine step_append_own rfl (.tmp 20) (.tmp 22) 30 rfl _ _ _ _ rfl rfl hrun3 ?_
    refine hK.out _ _ (pres2 (.inr fun _ => T3.o.cell 0) (.inr fun _ => T3.d.cell 0)) ?_
    clear hK K hrun3 G3 P3
    try simp only [Act.put, List.setIfInBounds_toArray, List.set_cons_zero, List.set_cons_succ]
    refine wpAnyE_ready (rs := [7]) (by kernel_rfl) (by simp) ?_
    refine AllReadyE.cons (o := { dst := some 27, op := Op.call { callee := .builtin .append, args := #[.tmp 24, .tmp 26], argTypes := _ }, type := _, pos := _, after := _, guard := _ }) rfl (fun K hK => ?_) AllReadyE.nil
    obtain ⟨u2, W4, hrun4, T4, P4, G4⟩ := T3.pushD x.2 (by simp; omega) (W0.heap.size) 1 HC3.out
    have RT4 := Lib.hid (RT3.out.trans P4)
    refine step_append_own rfl (.tmp 24) (.tmp 26) 30 rfl _ _ _ _ rfl rfl hrun4 ?_
    refine hK.out _ _ (pres2 (.inr fun _ => T4.o.cell 0) (.inr fun _ => T4.d.cell 0)) ?_
    clear hK K hrun4 G4 P4
    try simp only [Act.put, List.setIfInBounds_toArray, List.set_cons_zero, List.set_cons_succ]
    refine wpAnyE_ready (rs := [8]) (by kernel_rfl) (by simp) ?_
    refine AllReadyE.cons (o := { dst := none, op := Op.store 30 (.tmp 5) (.tmp 23), type := _, pos := _, after := _, guard := _ }) rfl (fun K hK => ?_) AllReadyE.nil
    have o1 := T4.o.cell 0
    have o2 := T4.o.frozen 0
    have o3 := T4.o.lt
    simp only [List.getElem?_cons_zero] at o1
    have dd := T4.d.keeps (Keeps.set W4 w1.heap.size 0 v2) (by simp)
    obtain ⟨va, vn, vc, rfl⟩ := slice_of_row T4.r
    go_simp
    refine hK.out _ _ (pres2 (.inl (by kernel_rfl)) (.inr fun _ => dd.cell 0)) ?_
    clear hK K
    try simp only [Act.put, List.setIfInBounds_toArray, List.set_cons_zero, List.set_cons_succ]
    refine wpAnyE_ready (rs := [9]) (by kernel_rfl) (by simp) ?_
    refine AllReadyE.cons (o := { dst := none, op := Op.store 30 (.tmp 6) (.tmp 27), type := _, pos := _, after := _, guard := _ }) rfl (fun K hK => ?_) AllReadyE.nil
    have d1 := dd.cell 0
    have d2 := dd.frozen 0
    have d3 := dd.lt
    simp only [List.getElem?_cons_zero] at d1
    obtain ⟨ua, un, uc, rfl⟩ := slice_of_row T4.s
    go_simp
    refine hK.out _ _ (pres2 (.inl (by kernel_rfl)) (.inl (by kernel_rfl))) ?_
    clear hK K
    refine wpAnyE_done (by kernel_rfl) ?_ _
    obtain ⟨TF, RF⟩ := T4.stores
    have RR := RT4.out.trans RF
    exact ⟨RR.1.from _, RR.2, _, _, by simpa using TF⟩
  case done =>
    rintro D ys W hD rfl ⟨v, u, hT⟩ hK
    have HE : Hid (∀ W9, W.grownBy W9 (some D) → WalkFn l w (.returned (.func (.func 20) #[] #[.pointer (some ⟨w1.heap.size, 0, none⟩), .pointer (some ⟨w1.heap.size + 1, 0, none⟩)])) W9) := Lib.hid fun W9 hg => by
      have h9 := hT.noncell hg (fun r e => by injection e with e; subst e; exact ⟨by omega, _, hK, rfl⟩)
      rw [HV.out.1, HV.out.2] at h9
      exact ⟨_, _, _, _, rfl, h9⟩
    clear hT T0 hBl HV
    gi_wp2
    refine ⟨by simp, .inl ⟨_, _, rfl, run_takeDeferred hK, ?_⟩⟩
    refine ⟨_, results_tmp rfl _ _ _, ?_⟩
    exact HE.out _ (grownBy_putObj' W D _)
  case stop =>
    rintro D c pre W _ _ h _
    exact h.elim
end TreeD
end Go.Proofs.YtakdmlaecidjaaaGreatDoor

namespace Go.Proofs.YtakdmlaecidjaaaGreatDoor
open Go.RowKit Go.Shelf ObjM RoundM
namespace TreeD
attribute [local go_sem] Oper.semAt_some

set_option maxRecDepth 100000 in
set_option maxHeartbeats 16000000 in
theorem walk_no (l : List Nd) (lv : Value) (w : World) (hl5 : l.length ≤ 50000) (hokl : ∀ n ∈ l, NdOk n) (hkl : ∀ n ∈ l, n.kids.length < 1000000) (hS : Still w lv l) (hok0 : ¬ (checkV l).2 = 0) :
    CallsIn Fence.wide 3 Tryz.prog 12 #[lv] w (WalkFn l w) := by
  obtain ⟨al, cl, rfl⟩ := hS.nds.shape
  have HCk := Lib.hid (check_any l _ w hl5 hokl hkl hS)
  obtain ⟨m, hm⟩ : ∃ m, l.length = m := ⟨_, rfl⟩
  have hnds := hS.nds
  have hcap := hS.cap
  clear hS hokl
  rw [hm] at HCk hnds hcap ⊢
  obtain ⟨ec, hec⟩ : ∃ ec, (checkV l).2 = ec := ⟨_, rfl⟩
  have hok := hok0
  rw [hec] at hok
  clear hok0
  have HP := Lib.hid (⟨rfl, by omega, .inl rfl, by simp, ⟨none, 0, rfl, .inl rfl⟩, fun b o n c0 e => by cases e⟩ : ([] : List Nd).length = 0 ∧ 0 ≤ 50000 ∧ TreeOr [] ∧ (∀ n ∈ ([] : List Nd), n.kids.length < 1000000) ∧ NdsAt w (.slice none 0 0) [] ∧ CapOk w (.slice none 0 0) [])
  have HV : Hid ((walkV []).map (·.1) = ordV l ∧ (walkV []).map (·.2) = dpV l) := Lib.hid (by
    unfold ordV dpV
    rw [if_neg (fun e => hok (hec.symm.trans e)), if_neg (fun e => hok (hec.symm.trans e))]
    exact ⟨rfl, rfl⟩)
  have HLen : Hid ((walkV []).length ≤ 50000) := Lib.hid (by rw [walkV_nil]; simp)
  have hokb : (ec != 0) = true := by simpa using hok
  clear hm hnds hcap hkl hl5
  refine callsIn_of_wp_marks Tryz.func12 rfl trivial ?_ rfl
  simp only [Tryz.ntmps12, List.size_toArray, List.length_cons, List.length_nil, Nat.reduceAdd, Nat.reduceSub, Array.replicate_succ, Array.replicate_zero, List.push_toArray, List.append_toArray, List.nil_append, List.cons_append]
  gi_wp2_with fail
  refine ⟨trivial, ?_⟩
  refine (callsIn_wide.2 HCk.out).mono ?_
  rintro e w1 ⟨rfl, hb1⟩
  generalize (checkV l).1 = c1
  rw [hec]
  have HB1 := Lib.hid hb1
  clear HCk hec hb1
  gi_wp2_with fail
  refine ⟨trivial, ?_⟩
  refine (preorder_in _ _ _ _ _).mono ?_
  rintro e w2 ⟨rfl, rfl⟩
  gi_wp2
  obtain ⟨T0, hBl⟩ := two_start w w1 (.slice none 0 0) HB1.out
  have hs1 := HB1.out.size
  have hsz : w1.heap.size + 1 + 1 + 1 = (((w1.alloc (.cells #[.slice none 0 0] 30)).alloc (.cells #[.slice none 0 0] 30)).alloc (.cells #[.slice none 0 0] 22)).heap.size := by simp
  change Code.wpIn _ _ _ _ _ _ (World.alloc (World.alloc (World.alloc w1 _) _) _)
  generalize World.alloc (World.alloc (World.alloc w1 _) _) _ = w3 at T0 hBl hsz ⊢
  refine wpIn_rangeFunc_ownG rfl (by omega) (gf := 26) (lb := #[.pointer (some ⟨w1.heap.size + 1 + 1, 0, none⟩)]) rfl trivial (enters_of Tryz.func26 (by kernel_rfl) rfl)
    (pre_stops 2 (w1.heap.size + 1 + 1) _ _ _ w w3 _ HP.out.1 HP.out.2.1 HP.out.2.2.1 HP.out.2.2.2.1 HP.out.2.2.2.2.1 HP.out.2.2.2.2.2 T0.b hBl) (fun h k => kpw_t h k) (kpw_b (by omega)) (Below.refl _ _) (fun _ => rfl)
    (fun pre W => ∃ v u, Two w W w1.heap.size (w1.heap.size + 1) v u v u (pre.map (·.1)) (pre.map (·.2)))
    (fun _ _ _ => False)
    (fun s W W' row hs hg hr => by obtain ⟨v, u, h⟩ := hs; exact ⟨v, u, h.noncell hg (fun r e => ⟨by have := (hr r e).1; omega, (hr r e).2⟩)⟩)
    (fun _ _ _ _ _ hs _ _ => hs)
    ⟨_, _, T0⟩ ?a1 ?assign ?body ?done ?stop
  case assign =>
    intro lp x W K hK
    unfold encP
    gi_wp2
    exact hK
  case body =>
    rintro lp pre x W ⟨v, u, hT⟩ hlt
    clear T0 hBl hsz HB1 HV
    have hT0 := hT.keeps (Keeps.drew [] W)
    have hR0 := Rd.drew (n₀ := w.heap.size) W
    have hpl : pre.length ≤ 50000 := by have := HLen.out; omega
    clear hlt hT
    gi_wp2
    refine region_E_round (S := S2 0 (fun W' => W'.cell? ⟨w1.heap.size, 0, none⟩ = some v) 4 (fun W' => W'.cell? ⟨w1.heap.size + 1, 0, none⟩ = some u)) (by kernel_rfl) (by kernel_rfl) (by rintro ⟨_, _, h⟩; exact h) ?_
    generalize World.drew W = W0 at hT0 hR0 ⊢
    have HR0 := Lib.hid hR0
    have c0 := hT0.o.cell 0
    have c4 := hT0.d.cell 0
    simp only [List.getElem?_cons_zero] at c0 c4
    clear hR0
    refine wpAnyE_take (i := 0) (oi := { dst := some 20, op := Op.load 30 (.tmp 5), type := _, pos := _, after := _, guard := _ }) (v := v) rfl (by kernel_rfl) (by kernel_rfl) (by kernel_rfl) (fun _ _ _ h => h) (Or.inl ⟨by rfl, ?_⟩) ⟨fun _ => c0, fun e => by omega⟩ ?_
    · intro w' hs
      have s0 := hs.1 rfl
      go_simp
    try simp only [Act.put, List.setIfInBounds_toArray, List.set_cons_zero, List.set_cons_succ]
    refine wpAnyE_take (i := 1) (oi := { dst := some 21, op := Op.move (.tmp 7), type := _, pos := _, after := _, guard := _ }) (v := .int .i64 x.1) rfl (by kernel_rfl) (by kernel_rfl) (by kernel_rfl) (fun _ _ _ h => h) (Or.inl ⟨by rfl, ?_⟩) ⟨fun e => by omega, fun e => by omega⟩ ?_
    · intro w' hs
      clear hs
      go_simp
    try simp only [Act.put, List.setIfInBounds_toArray, List.set_cons_zero, List.set_cons_succ]
    refine wpAnyE_take (i := 4) (oi := { dst := some 24, op := Op.load 30 (.tmp 6), type := _, pos := _, after := _, guard := _ }) (v := u) rfl (by kernel_rfl) (by kernel_rfl) (by kernel_rfl) (fun _ _ _ h => h) (Or.inl ⟨by rfl, ?_⟩) ⟨fun e => by omega, fun _ => c4⟩ ?_
    · intro w' hs
      have s0 := hs.2 rfl
      go_simp
    try simp only [Act.put, List.setIfInBounds_toArray, List.set_cons_zero, List.set_cons_succ]
    refine wpAnyE_take (i := 5) (oi := { dst := some 25, op := Op.move (.tmp 8), type := _, pos := _, after := _, guard := _ }) (v := .int .i64 x.2) rfl (by kernel_rfl) (by kernel_rfl) (by kernel_rfl) (fun _ _ _ h => h) (Or.inl ⟨by rfl, ?_⟩) ⟨fun e => by omega, fun e => by omega⟩ ?_
    · intro w' hs
      clear hs
      go_simp
    try simp only [Act.put, List.setIfInBounds_toArray, List.set_cons_zero, List.set_cons_succ]
    refine wpAnyE_ready (rs := [2, 6]) (by kernel_rfl) (by simp) ?_
    refine AllReadyE.cons (o := { dst := some 22, op := Op.buildSlice 30 1 #[(0, .tmp 21)], type := _, pos := _, after := _, guard := _ }) rfl (fun K hK => ?_) ?_
    · have T1 := hT0.keeps (Keeps.alloc [] _ (.cells #[.int .i64 x.1] 3))
      have HT1 : Hid ((W0.alloc (.cells #[.int .i64 x.1] 3)).cell? ⟨W0.heap.size, 0, none⟩ = some (.int .i64 x.1)) := Lib.hid (by have h := (Has.new W0 3 [.int .i64 x.1]).cell 0; exact h)
      have RT1 := Lib.hid (HR0.out.trans (Rd.alloc W0 hT0.b.size (.cells #[.int .i64 x.1] 3)))
      go_simp
      refine hK.out _ _ (pres2 (.inr fun _ => T1.o.cell 0) (.inr fun _ => T1.d.cell 0)) ?_
      clear hK K
      try simp only [Act.put, List.setIfInBounds_toArray, List.set_cons_zero, List.set_cons_succ]
      refine wpAnyE_ready (rs := [3, 6]) (by kernel_rfl) (by simp) ?_
      refine AllReadyE.cons (o := { dst := some 23, op := Op.call { callee := .builtin .append, args := #[.tmp 20, .tmp 22], argTypes := _ }, type := _, pos := _, after := _, guard := _ }) rfl (fun K hK => ?_) ?_
      · obtain ⟨v2, W2, hrun2, T2, P2, G2⟩ := T1.pushO x.1 (by simp; omega) (W0.heap.size) 1 HT1.out
        have RT2 := Lib.hid (RT1.out.trans P2)
        refine step_append_own rfl (.tmp 20) (.tmp 22) 30 rfl _ _ _ _ rfl rfl hrun2 ?_
        refine hK.out _ _ (pres2 (.inr fun _ => T2.o.cell 0) (.inr fun _ => T2.d.cell 0)) ?_
        clear hK K hrun2 G2 P2
        try simp only [Act.put, List.setIfInBounds_toArray, List.set_cons_zero, List.set_cons_succ]
        refine wpAnyE_ready (rs := [6]) (by kernel_rfl) (by simp) ?_
        refine AllReadyE.cons (o := { dst := some 26, op := Op.buildSlice 30 1 #[(0, .tmp 25)], type := _, pos := _, after := _, guard := _ }) rfl (fun K hK => ?_) AllReadyE.nil
        have T3 := T2.keeps (Keeps.alloc [] _ (.cells #[.int .i64 x.2] 3))
        have HT3 : Hid ((W2.alloc (.cells #[.int .i64 x.2] 3)).cell? ⟨W2.heap.size, 0, none⟩ = some (.int .i64 x.2)) := Lib.hid (by have h := (Has.new W2 3 [.int .i64 x.2]).cell 0; exact h)
        have RT3 := Lib.hid (RT2.out.trans (Rd.alloc W2 T2.b.size (.cells #[.int .i64 x.2] 3)))
        go_simp
        refine hK.out _ _ (pres2 (.inr fun _ => T3.o.cell 0) (.inr fun _ => T3.d.cell 0)) ?_
        clear hK K
        try simp only [Act.put, List.setIfInBounds_toArray, List.set_cons_zero, List.set_cons_succ]
        refine wpAnyE_ready (rs := [7]) (by kernel_rfl) (by simp) ?_
        refine AllReadyE.cons (o := { dst := some 27, op := Op.call { callee := .builtin .append, args := #[.tmp 24, .tmp 26], argTypes := _ }, type := _, pos := _, after := _, guard := _ }) rfl (fun K hK => ?_) AllReadyE.nil
        obtain ⟨u2, W4, hrun4, T4, P4, G4⟩ := T3.pushD x.2 (by simp; omega) (W2.heap.size) 1 HT3.out
        have RT4 := Lib.hid (RT3.out.trans P4)
        refine step_append_own rfl (.tmp 24) (.tmp 26) 30 rfl _ _ _ _ rfl rfl hrun4 ?_
        refine hK.out _ _ (pres2 (.inr fun _ => T4.o.cell 0) (.inr fun _ => T4.d.cell 0)) ?_
        clear hK K hrun4 G4 P4
        try simp only [Act.put, List.setIfInBounds_toArray, List.set_cons_zero, List.set_cons_succ]
        refine wpAnyE_ready (rs := [8]) (by kernel_rfl) (by simp) ?_
        refine AllReadyE.cons (o := { dst := none, op := Op.store 30 (.tmp 5) (.tmp 23), type := _, pos := _, after := _, guard := _ }) rfl (fun K hK => ?_) AllReadyE.nil
        have o1 := T4.o.cell 0
        have o2 := T4.o.frozen 0
        have o3 := T4.o.lt
        simp only [List.getElem?_cons_zero] at o1
        have dd := T4.d.keeps (Keeps.set W4 w1.heap.size 0 v2) (by simp)
        obtain ⟨va, vn, vc, rfl⟩ := slice_of_row T4.r
        go_simp
        refine hK.out _ _ (pres2 (.inl (by kernel_rfl)) (.inr fun _ => dd.cell 0)) ?_
        clear hK K
        try simp only [Act.put, List.setIfInBounds_toArray, List.set_cons_zero, List.set_cons_succ]
        refine wpAnyE_ready (rs := [9]) (by kernel_rfl) (by simp) ?_
        refine AllReadyE.cons (o := { dst := none, op := Op.store 30 (.tmp 6) (.tmp 27), type := _, pos := _, after := _, guard := _ }) rfl (fun K hK => ?_) AllReadyE.nil
        have d1 := dd.cell 0
        have d2 := dd.frozen 0
        have d3 := dd.lt
        simp only [List.getElem?_cons_zero] at d1
        obtain ⟨ua, un, uc, rfl⟩ := slice_of_row T4.s
        go_simp
        refine hK.out _ _ (pres2 (.inl (by kernel_rfl)) (.inl (by kernel_rfl))) ?_
        clear hK K
        refine wpAnyE_done (by kernel_rfl) ?_ _
        obtain ⟨TF, RF⟩ := T4.stores
        have RR := RT4.out.trans RF
        exact ⟨RR.1.from _, RR.2, _, _, by simpa using TF⟩
      refine AllReadyE.cons (o := { dst := some 26, op := Op.buildSlice 30 1 #[(0, .tmp 25)], type := _, pos := _, after := _, guard := _ }) rfl (fun K hK => ?_) AllReadyE.nil
      have T2 := T1.keeps (Keeps.alloc [] _ (.cells #[.int .i64 x.2] 3))
      have HC2 : Hid (((W0.alloc (.cells #[.int .i64 x.1] 3)).alloc (.cells #[.int .i64 x.2] 3)).cell? ⟨W0.heap.size, 0, none⟩ = some (.int .i64 x.1)) := Lib.hid ((World.cell?_alloc_lt (W0.alloc (.cells #[.int .i64 x.1] 3)) (.cells #[.int .i64 x.2] 3) ⟨W0.heap.size, 0, none⟩ (World.block_lt_of_cell? _ _ HT1.out)).trans HT1.out)
      have HT2 : Hid (((W0.alloc (.cells #[.int .i64 x.1] 3)).alloc (.cells #[.int .i64 x.2] 3)).cell? ⟨W0.heap.size + 1, 0, none⟩ = some (.int .i64 x.2)) := Lib.hid (by have h := (Has.new (W0.alloc (.cells #[.int .i64 x.1] 3)) 3 [.int .i64 x.2]).cell 0; rwa [World.size_alloc] at h)
      have RT2 := Lib.hid (RT1.out.trans (Rd.alloc (W0.alloc (.cells #[.int .i64 x.1] 3)) T1.b.size (.cells #[.int .i64 x.2] 3)))
      go_simp
      refine hK.out _ _ (pres2 (.inr fun _ => T2.o.cell 0) (.inr fun _ => T2.d.cell 0)) ?_
      clear hK K
      try simp only [Act.put, List.setIfInBounds_toArray, List.set_cons_zero, List.set_cons_succ]
      refine wpAnyE_ready (rs := [3]) (by kernel_rfl) (by simp) ?_
      refine AllReadyE.cons (o := { dst := some 23, op := Op.call { callee := .builtin .append, args := #[.tmp 20, .tmp 22], argTypes := _ }, type := _, pos := _, after := _, guard := _ }) rfl (fun K hK => ?_) AllReadyE.nil
      obtain ⟨v2, W3, hrun3, T3, P3, G3⟩ := T2.pushO x.1 (by simp; omega) (W0.heap.size) 1 HC2.out
      have RT3 := Lib.hid (RT2.out.trans P3)
      have HC3 : Hid (W3.cell? ⟨W0.heap.size + 1, 0, none⟩ = some (.int .i64 x.2)) := Lib.hid ((cell_same (G3.block _ (by first | (simp; done) | (simp; omega)) (fun e => by have := (own_lt hT0.r _ e.symm).2; omega)) 0).trans HT2.out)
      refine step_append_own rfl (.tmp 20) (.tmp 22) 30 rfl _ _ _ _ rfl rfl hrun3 ?_
      refine hK.out _ _ (pres2 (.inr fun _ => T3.o.cell 0) (.inr fun _ => T3.d.cell 0)) ?_
      clear hK K hrun3 G3 P3
      try simp only [Act.put, List.setIfInBounds_toArray, List.set_cons_zero, List.set_cons_succ]
      refine wpAnyE_ready (rs := [7]) (by kernel_rfl) (by simp) ?_
      refine AllReadyE.cons (o := { dst := some 27, op := Op.call { callee := .builtin .append, args := #[.tmp 24, .tmp 26], argTypes := _ }, type := _, pos := _, after := _, guard := _ }) rfl (fun K hK => ?_) AllReadyE.nil
      obtain ⟨u2, W4, hrun4, T4, P4, G4⟩ := T3.pushD x.2 (by simp; omega) (W0.heap.size + 1) 1 HC3.out
      have RT4 := Lib.hid (RT3.out.trans P4)
      refine step_append_own rfl (.tmp 24) (.tmp 26) 30 rfl _ _ _ _ rfl rfl hrun4 ?_
      refine hK.out _ _ (pres2 (.inr fun _ => T4.o.cell 0) (.inr fun _ => T4.d.cell 0)) ?_
      clear hK K hrun4 G4 P4
      try simp only [Act.put, List.setIfInBounds_toArray, List.set_cons_zero, List.set_cons_succ]
      refine wpAnyE_ready (rs := [8]) (by kernel_rfl) (by simp) ?_
      refine AllReadyE.cons (o := { dst := none, op := Op.store 30 (.tmp 5) (.tmp 23), type := _, pos := _, after := _, guard := _ }) rfl (fun K hK => ?_) AllReadyE.nil
      have o1 := T4.o.cell 0
      have o2 := T4.o.frozen 0
      have o3 := T4.o.lt
      simp only [List.getElem?_cons_zero] at o1
      have dd := T4.d.keeps (Keeps.set W4 w1.heap.size 0 v2) (by simp)
      obtain ⟨va, vn, vc, rfl⟩ := slice_of_row T4.r
      go_simp
      refine hK.out _ _ (pres2 (.inl (by kernel_rfl)) (.inr fun _ => dd.cell 0)) ?_
      clear hK K
      try simp only [Act.put, List.setIfInBounds_toArray, List.set_cons_zero, List.set_cons_succ]
      refine wpAnyE_ready (rs := [9]) (by kernel_rfl) (by simp) ?_
      refine AllReadyE.cons (o := { dst := none, op := Op.store 30 (.tmp 6) (.tmp 27), type := _, pos := _, after := _, guard := _ }) rfl (fun K hK => ?_) AllReadyE.nil
      have d1 := dd.cell 0
      have d2 := dd.frozen 0
      have d3 := dd.lt
      simp only [List.getElem?_cons_zero] at d1
      obtain ⟨ua, un, uc, rfl⟩ := slice_of_row T4.s
      go_simp
      refine hK.out _ _ (pres2 (.inl (by kernel_rfl)) (.inl (by kernel_rfl))) ?_
      clear hK K
      refine wpAnyE_done (by kernel_rfl) ?_ _
      obtain ⟨TF, RF⟩ := T4.stores
      have RR := RT4.out.trans RF
      exact ⟨RR.1.from _, RR.2, _, _, by simpa using TF⟩
    refine AllReadyE.cons (o := { dst := some 26, op := Op.buildSlice 30 1 #[(0, .tmp 25)], type := _, pos := _, after := _, guard := _ }) rfl (fun K hK => ?_) AllReadyE.nil
    have T1 := hT0.keeps (Keeps.alloc [] _ (.cells #[.int .i64 x.2] 3))
    have HT1 : Hid ((W0.alloc (.cells #[.int .i64 x.2] 3)).cell? ⟨W0.heap.size, 0, none⟩ = some (.int .i64 x.2)) := Lib.hid (by have h := (Has.new W0 3 [.int .i64 x.2]).cell 0; exact h)
    have RT1 := Lib.hid (HR0.out.trans (Rd.alloc W0 hT0.b.size (.cells #[.int .i64 x.2] 3)))
    go_simp
    refine hK.out _ _ (pres2 (.inr fun _ => T1.o.cell 0) (.inr fun _ => T1.d.cell 0)) ?_
    clear hK K
    try simp only [Act.put, List.setIfInBounds_toArray, List.set_cons_zero, List.set_cons_succ]
    refine wpAnyE_ready (rs := [2]) (by kernel_rfl) (by simp) ?_
    refine AllReadyE.cons (o := { dst := some 22, op := Op.buildSlice 30 1 #[(0, .tmp 21)], type := _, pos := _, after := _, guard := _ }) rfl (fun K hK => ?_) AllReadyE.nil
    have T2 := T1.keeps (Keeps.alloc [] _ (.cells #[.int .i64 x.1] 3))
    have HC2 : Hid (((W0.alloc (.cells #[.int .i64 x.2] 3)).alloc (.cells #[.int .i64 x.1] 3)).cell? ⟨W0.heap.size, 0, none⟩ = some (.int .i64 x.2)) := Lib.hid ((World.cell?_alloc_lt (W0.alloc (.cells #[.int .i64 x.2] 3)) (.cells #[.int .i64 x.1] 3) ⟨W0.heap.size, 0, none⟩ (World.block_lt_of_cell? _ _ HT1.out)).trans HT1.out)
    have HT2 : Hid (((W0.alloc (.cells #[.int .i64 x.2] 3)).alloc (.cells #[.int .i64 x.1] 3)).cell? ⟨W0.heap.size + 1, 0, none⟩ = some (.int .i64 x.1)) := Lib.hid (by have h := (Has.new (W0.alloc (.cells #[.int .i64 x.2] 3)) 3 [.int .i64 x.1]).cell 0; rwa [World.size_alloc] at h)
    have RT2 := Lib.hid (RT1.out.trans (Rd.alloc (W0.alloc (.cells #[.int .i64 x.2] 3)) T1.b.size (.cells #[.int .i64 x.1] 3)))
    go_simp
    refine hK.out _ _ (pres2 (.inr fun _ => T2.o.cell 0) (.inr fun _ => T2.d.cell 0)) ?_
    clear hK K
    try simp only [Act.put, List.setIfInBounds_toArray, List.set_cons_zero, List.set_cons_succ]
    refine wpAnyE_ready (rs := [3]) (by kernel_rfl) (by simp) ?_
    refine AllReadyE.cons (o := { dst := some 23, op := Op.call { callee := .builtin .append, args := #[.tmp 20, .tmp 22], argTypes := _ }, type := _, pos := _, after := _, guard := _ }) rfl (fun K hK => ?_) AllReadyE.nil
    obtain ⟨v2, W3, hrun3, T3, P3, G3⟩ := T2.pushO x.1 (by simp; omega) (W0.heap.size + 1) 1 HT2.out
    have RT3 := Lib.hid (RT2.out.trans P3)
    have HC3 : Hid (W3.cell? ⟨W0.heap.size, 0, none⟩ = some (.int .i64 x.2)) := Lib.hid ((cell_same (G3.block _ (by first | (simp; done) | (simp; omega)) (fun e => by have := (own_lt hT0.r _ e.symm).2; omega)) 0).trans HC2.out)
    refine step_append_own rfl (.tmp 20) (.tmp 22) 30 rfl _ _ _ _ rfl rfl hrun3 ?_
    refine hK.out _ _ (pres2 (.inr fun _ => T3.o.cell 0) (.inr fun _ => T3.d.cell 0)) ?_
    clear hK K hrun3 G3 P3
    try simp only [Act.put, List.setIfInBounds_toArray, List.set_cons_zero, List.set_cons_succ]
    refine wpAnyE_ready (rs := [7]) (by kernel_rfl) (by simp) ?_
    refine AllReadyE.cons (o := { dst := some 27, op := Op.call { callee := .builtin .append, args := #[.tmp 24, .tmp 26], argTypes := _ }, type := _, pos := _, after := _, guard := _ }) rfl (fun K hK => ?_) AllReadyE.nil
    obtain ⟨u2, W4, hrun4, T4, P4, G4⟩ := T3.pushD x.2 (by simp; omega) (W0.heap.size) 1 HC3.out
    have RT4 := Lib.hid (RT3.out.trans P4)
    refine step_append_own rfl (.tmp 24) (.tmp 26) 30 rfl _ _ _ _ rfl rfl hrun4 ?_
    refine hK.out _ _ (pres2 (.inr fun _ => T4.o.cell 0) (.inr fun _ => T4.d.cell 0)) ?_
    clear hK K hrun4 G4 P4
    try simp only [Act.put, List.setIfInBounds_toArray, List.set_cons_zero, List.set_cons_succ]
    refine wpAnyE_ready (rs := [8]) (by kernel_rfl) (by simp) ?_
    refine AllReadyE.cons (o := { dst := none, op := Op.store 30 (.tmp 5) (.tmp 23), type := _, pos := _, after := _, guard := _ }) rfl (fun K hK => ?_) AllReadyE.nil
    have o1 := T4.o.cell 0
    have o2 := T4.o.frozen 0
    have o3 := T4.o.lt
    simp only [List.getElem?_cons_zero] at o1
    have dd := T4.d.keeps (Keeps.set W4 w1.heap.size 0 v2) (by simp)
    obtain ⟨va, vn, vc, rfl⟩ := slice_of_row T4.r
    go_simp
    refine hK.out _ _ (pres2 (.inl (by kernel_rfl)) (.inr fun _ => dd.cell 0)) ?_
    clear hK K
    try simp only [Act.put, List.setIfInBounds_toArray, List.set_cons_zero, List.set_cons_succ]
    refine wpAnyE_ready (rs := [9]) (by kernel_rfl) (by simp) ?_
    refine AllReadyE.cons (o := { dst := none, op := Op.store 30 (.tmp 6) (.tmp 27), type := _, pos := _, after := _, guard := _ }) rfl (fun K hK => ?_) AllReadyE.nil
    have d1 := dd.cell 0
    have d2 := dd.frozen 0
    have d3 := dd.lt
    simp only [List.getElem?_cons_zero] at d1
    obtain ⟨ua, un, uc, rfl⟩ := slice_of_row T4.s
    go_simp
    refine hK.out _ _ (pres2 (.inl (by kernel_rfl)) (.inl (by kernel_rfl))) ?_
    clear hK K
    refine wpAnyE_done (by kernel_rfl) ?_ _
    obtain ⟨TF, RF⟩ := T4.stores
    have RR := RT4.out.trans RF
    exact ⟨RR.1.from _, RR.2, _, _, by simpa using TF⟩
  case done =>
    rintro D ys W hD rfl ⟨v, u, hT⟩ hK
    have HE : Hid (∀ W9, W.grownBy W9 (some D) → WalkFn l w (.returned (.func (.func 20) #[] #[.pointer (some ⟨w1.heap.size, 0, none⟩), .pointer (some ⟨w1.heap.size + 1, 0, none⟩)])) W9) := Lib.hid fun W9 hg => by
      have h9 := hT.noncell hg (fun r e => by injection e with e; subst e; exact ⟨by omega, _, hK, rfl⟩)
      rw [HV.out.1, HV.out.2] at h9
      exact ⟨_, _, _, _, rfl, h9⟩
    clear hT T0 hBl HV
    gi_wp2
    refine ⟨by simp, .inl ⟨_, _, rfl, run_takeDeferred hK, ?_⟩⟩
    refine ⟨_, results_tmp rfl _ _ _, ?_⟩
    exact HE.out _ (grownBy_putObj' W D _)
  case stop =>
    rintro D c pre W _ _ h _
    exact h.elim
theorem walk_in (l : List Nd) (lv : Value) (w : World) (hl5 : l.length ≤ 50000) (hokl : ∀ n ∈ l, NdOk n) (hkl : ∀ n ∈ l, n.kids.length < 1000000) (hS : Still w lv l) :
    CallsIn Fence.wide 3 Tryz.prog 12 #[lv] w (WalkFn l w) := by
  by_cases h : (checkV l).2 = 0
  · exact walk_yes l lv w hl5 hokl hkl hS h
  · exact walk_no l lv w hl5 hokl hkl hS h
end TreeD
end Go.Proofs.YtakdmlaecidjaaaGreatDoor

namespace Go.Proofs.YtakdmlaecidjaaaGreatDoor
open Go.RowKit Go.Shelf ObjM RoundM
namespace TreeD
attribute [local go_sem] Oper.semAt_some

theorem zip_take_succ {zs ds : List Int} {k : Nat} (h1 : k < zs.length) (h2 : k < ds.length) : (zs.zip ds).take (k + 1) = (zs.zip ds).take k ++ [(zs[k], ds[k])] := by
  rw [List.take_succ_eq_append_getElem (by rw [List.length_zip]; omega)]
  simp
set_option maxRecDepth 100000 in
set_option maxHeartbeats 4000000 in
theorem each1_in (n lp Bo Bd m : Nat) (zs ds : List Int) (v u : Value) (w0 : World) (hz : zs.length = m) (hd : ds.length = m) (hm : m ≤ 50000)
    (hO : Has w0 Bo 30 [v]) (hD : Has w0 Bd 30 [u]) (hv : KidsAt w0 v zs) (hu : KidsAt w0 u ds) (J Jx : List (Int × Int) → World → Prop)
    (hY : ∀ pre x W, J pre W → pre.length < (zs.zip ds).length → YieldAt Fence.wide (n - 1) Tryz.prog lp (encP x) W fun e W' => (e = .returned (.bool true) ∧ J (pre ++ [x]) W' ∧ Below w0.heap.size W W') ∨ (e = .returned (.bool false) ∧ Jx (pre ++ [x]) W'))
    (W : World) (hB : Below w0.heap.size w0 W) (h0 : J [] W) :
    CallsIn Fence.wide n Tryz.prog 20 #[fnY lp, .pointer (some ⟨Bo, 0, none⟩), .pointer (some ⟨Bd, 0, none⟩)] W fun e W' => (∃ v, e = .returned v) ∧ ((∃ ys, ys = zs.zip ds ∧ J ys W') ∨ (∃ pre, pre <+: zs.zip ds ∧ Jx pre W')) := by
  obtain ⟨va, vc, rfl⟩ := hv.shape
  obtain ⟨ua, uc, rfl⟩ := hu.shape
  rw [hz] at hO hv
  rw [hd] at hD hu
  have hzl : (zs.zip ds).length = m := by rw [List.length_zip]; omega
  rw [hzl] at hY
  have HB := Lib.hid hB
  have HC : Hid (∀ W1, Below w0.heap.size w0 W1 → W1.cell? ⟨Bo, 0, none⟩ = some (.slice va m vc) ∧ W1.cell? ⟨Bd, 0, none⟩ = some (.slice ua m uc) ∧ KidsAt W1 (.slice va m vc) zs ∧ KidsAt W1 (.slice ua m uc) ds) := Lib.hid fun W1 h =>
    ⟨(h.cell (p := ⟨Bo, 0, none⟩) hO.lt).trans (hO.cell 0), (h.cell (p := ⟨Bd, 0, none⟩) hD.lt).trans (hD.cell 0), hv.below (Nat.le_refl _) h, hu.below (Nat.le_refl _) h⟩
  have HZ := Lib.hid hz
  have HD := Lib.hid hd
  have HZL := Lib.hid hzl
  have hdd : ∀ k : Nat, (Fence.wide.depth.isSome = true → 1 ≤ k) := fun k h => by cases h
  obtain ⟨o1, o2, -, -⟩ := HC.out W hB
  have HJ0 : Hid (J ((zs.zip ds).take 0) W) := Lib.hid h0
  simp only [fnY]
  clear hO hD hv hu hB h0 hz hd hzl
  refine callsIn_of_wp Tryz.func20 rfl trivial ?_ rfl
  simp only [Tryz.ntmps20, List.size_toArray, List.length_cons, List.length_nil, Nat.reduceAdd, Nat.reduceSub, Array.replicate_succ, Array.replicate_zero, List.push_toArray, List.append_toArray, List.nil_append, List.cons_append]
  gi_wp2
  clear o1 o2
  gi_loopw [8] (fun i wr => ∃ k : Nat, i = .int .i64 (k : Int) ∧ k ≤ m ∧ Hid (J ((zs.zip ds).take k) wr) ∧ Hid (Below w0.heap.size w0 wr)) (fun i _ => m - (intOf i).toNat)
  case atStart => exact ⟨0, rfl, by omega, HJ0, HB⟩
  case round =>
    obtain ⟨k, rfl, hk, HJ, HBr⟩ := hrel
    clear HJ0 HB
    by_cases hlt : k < m
    · have hi1 : (k : Int) < (m : Int) := by omega
      have hi0 : (0 : Int) ≤ (k : Int) := by omega
      have k1 : k < zs.length := by rw [HZ.out]; exact hlt
      have k2 : k < ds.length := by rw [HD.out]; exact hlt
      obtain ⟨o1, o2, hv, hu⟩ := HC.out wr HBr.out
      obtain ⟨g1, p1, rfl, -, c1⟩ := hv.at k k1
      obtain ⟨g2, p2, rfl, -, c2⟩ := hu.at k k2
      have HT := Lib.hid (zip_take_succ k1 k2)
      have hlen : ((zs.zip ds).take k).length < m := by rw [List.length_take, HZL.out]; omega
      generalize zs[k] = x at c1 HT
      generalize ds[k] = y at c2 HT
      obtain ⟨fn, tmps, assign, body, hy, hR⟩ := hY _ (x, y) wr HJ.out hlen
      simp only [encP] at hy
      clear hv hu k1 k2 hlen
      gi_wp2_with fail
      try refine ⟨hdd _, ?_⟩
      refine hR.mono ?_
      clear hR hy
      rintro e W2 (⟨rfl, hJ2, hk2⟩ | ⟨rfl, hx2⟩)
      · have HJ2 : Hid (J ((zs.zip ds).take (k + 1)) W2 ∧ Below w0.heap.size w0 W2) := Lib.hid ⟨by rw [HT.out]; exact hJ2, HBr.out.trans hk2⟩
        clear hJ2 hk2 o1 o2 c1 c2
        gi_wp2
        go_roundw
        case rel => exact ⟨k + 1, by go_num, by omega, Lib.hid HJ2.out.1, Lib.hid HJ2.out.2⟩
        case measure => simp [intOf]; omega
      · have HE : Hid (∃ pre, pre <+: zs.zip ds ∧ Jx pre W2) := Lib.hid ⟨_, (by rw [← HT.out]; exact List.take_prefix _ _), hx2⟩
        clear hx2 o1 o2 c1 c2
        gi_wp2
        refine bodyPost_ret (results_none rfl _ _ _) rfl ?_
        exact ⟨⟨_, rfl⟩, .inr HE.out⟩
    · have hkm : k = m := by omega
      subst hkm
      have HE : Hid (J (zs.zip ds) wr) := Lib.hid (by
        have h := HJ.out
        rwa [List.take_of_length_le (by rw [HZL.out]; exact Nat.le_refl _)] at h)
      clear HJ
      gi_wp2
      go_end0
      exact ⟨⟨_, rfl⟩, .inl ⟨_, rfl, HE.out⟩⟩
theorem each_stops (n Bo Bd m : Nat) (zs ds : List Int) (v u : Value) (w0 w : World) (hz : zs.length = m) (hd : ds.length = m) (hm : m ≤ 50000) (hO : Has w0 Bo 30 [v]) (hD : Has w0 Bd 30 [u]) (hv : KidsAt w0 v zs) (hu : KidsAt w0 u ds) (hB : Below w0.heap.size w0 w) :
    SeqStopsK Fence.wide n Tryz.prog 20 #[.pointer (some ⟨Bo, 0, none⟩), .pointer (some ⟨Bd, 0, none⟩)] encP (Below w0.heap.size) (fun ys => ys = zs.zip ds) (fun pre => pre <+: zs.zip ds) (zs.zip ds).length w := fun lp J Jx W hW _ _ hY h0 =>
  each1_in n lp Bo Bd m zs ds v u w0 hz hd hm hO hD hv hu J Jx hY W (hB.trans (hW.mono hB.size)) h0
end TreeD
end Go.Proofs.YtakdmlaecidjaaaGreatDoor
