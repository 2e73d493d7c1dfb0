/- Spreading once more: of what stood before nothing changes but the set. (Written by mk_but.py.) -/
import Derived.Test.YtajhkogknpmnbaaDoorFlowZ4
namespace Go.Proofs.YtajhkogknpmnbaaDoor
open Go.RowKit ObjM
namespace FlowDz
open FlowD FlowM

/-- Below B nothing changes but one block. -/
structure But (B G : Nat) (w w' : World) : Prop where
  os : w'.os = w.os
  tape : w'.tape = w.tape
  output : w'.output = w.output
  size : w.heap.size ≤ w'.heap.size
  block : ∀ k, k < B → k ≠ G → w'.heap[k]? = w.heap[k]?
theorem But.refl (B G : Nat) (w : World) : But B G w w := ⟨rfl, rfl, rfl, Nat.le_refl _, fun _ _ _ => rfl⟩
theorem But.trans {B G : Nat} {a b c : World} (h : But B G a b) (k : But B G b c) : But B G a c := ⟨k.os.trans h.os, k.tape.trans h.tape, k.output.trans h.output, Nat.le_trans h.size k.size, fun x hx hg => (k.block x hx hg).trans (h.block x hx hg)⟩
theorem _root_.Go.Proofs.YtajhkogknpmnbaaDoor.ObjM.Keeps.toBut {B G : Nat} {S : List Nat} {w w' : World} (h : Keeps S w w') (hB : B ≤ w.heap.size) (hS : ∀ x ∈ S, x = G ∨ B ≤ x) : But B G w w' :=
  ⟨h.os, h.tape, h.output, h.size, fun k hk hg => h.block k (by omega) fun hs => by
    rcases hS k hs with e | e
    · exact hg e
    · omega⟩
theorem But.of {n B G : Nat} {w w' : World} (h : Below n w w') (hB : B ≤ n) : But B G w w' := ⟨h.os, h.tape, h.output, h.size, fun k hk _ => h.block k (by omega)⟩
theorem But.toBelow {B G n : Nat} {w w' : World} (h : But B G w w') (hn : n ≤ B) (hG : n ≤ G) : Below n w w' := ⟨h.os, h.tape, h.output, h.size, fun k hk => h.block k (by omega) (by omega)⟩
theorem But.set {B G L : Nat} {a w : World} (h : But B G a w) (hL : B ≤ L) (v : Value) : But B G a (w.setCell ⟨L, 0, none⟩ v) :=
  ⟨h.os, h.tape, h.output, Nat.le_trans h.size (Keeps.set w L 0 v).size, fun k hk hg => (Below.heap_setCell _ _ _ k (by show k ≠ L; omega)).trans (h.block k hk hg)⟩
theorem But.has {B G X : Nat} {t : TypeId} {cs : List Value} {w w' : World} (h : But B G w w') (hX : Has w X t cs) (hB : X < B) (hG : X ≠ G) : Has w' X t cs := (h.block X hB hG).trans hX
theorem hands_mono {n0 B G : Nat} {W : World} {a : Value} {zs : List Int} (h : Hands n0 W G a zs) (hG : G ≤ B) : Hands n0 W B a zs := by
  rcases h with h | ⟨F, c, h1, h2, h3⟩
  · exact .inl h
  · exact .inr ⟨F, c, h1, h2, by omega⟩
/-- What was found so far, and what was seen: v is the list's head. -/
structure SpAt (w : World) (B T G L F : Nat) (v : Value) (st : Nat × List Int) (zs : List Int) : Prop where
  t : Has w T 54 [.slice (some ⟨G, 0, none⟩) 1 1]
  g : SetAt w G st.1
  x : st.1 < LabelM.M64
  l : Has w L 26 [v]
  o : w.ownsRow B 3 1 v st.2.length (st.2.map (Value.int .i64))
  b : B ≤ L
  f : RowAt w F zs
  d : ∀ g, v.ownBlock = some g → g ≠ F
theorem SpAt.add {w w' : World} {B T G L F : Nat} {v : Value} {st : Nat × List Int} {zs : List Int} (h : SpAt w B T G L F v st zs) {x : Nat} (hx : x < LabelM.M64) (hg : SetAt w' G x) (k : Keeps [G] w w') : SpAt w' B T G L F v (x, st.2) zs := by
  have n1 : T ≠ G := h.t.ne h.g (by decide)
  have n2 : L ≠ G := h.l.ne h.g (by decide)
  obtain ⟨fcs, hf, hi⟩ := h.f
  have n3 : F ≠ G := hf.ne h.g (by decide)
  exact ⟨h.t.keeps k (by simpa using n1), hg, hx, h.l.keeps k (by simpa using n2), own_keeps h.o k (fun g hg' => by simpa using own_ne h.o h.g (by decide) g hg'), h.b, ⟨fcs, hf.keeps k (by simpa using n3), hi⟩, h.d⟩
theorem SpAt.push {w w' : World} {B T G L F : Nat} {v v' : Value} {st : Nat × List Int} {zs : List Int} (h : SpAt w B T G L F v st zs) {z : Int}
    (ho : w'.ownsRow B 3 1 v' (st.2 ++ [z]).length ((st.2 ++ [z]).map (Value.int .i64))) (hk : w.grownBy w' v.ownBlock) (hv : v'.ownBlock = v.ownBlock ∨ ∃ g, v'.ownBlock = some g ∧ w.heap.size ≤ g) :
    SpAt (w'.setCell ⟨L, 0, none⟩ v') B T G L F v' (st.1, st.2 ++ [z]) zs := by
  have k := Keeps.grown hk
  have hne : ∀ {t : TypeId} {X : Nat} {cs : List Value}, Has w X t cs → t ≠ 3 → X ∉ v.ownBlock.toList := fun hX ht hm => by
    have := own_ne h.o hX ht _ (by simpa using hm)
    exact this rfl
  obtain ⟨fcs, hf, hi⟩ := h.f
  have hl := h.l.keeps k (hne h.l (by decide))
  have hs : ∀ {t : TypeId} {X : Nat} {cs : List Value}, Has w' X t cs → t ≠ 26 → Has (w'.setCell ⟨L, 0, none⟩ v') X t cs := fun hX ht => hX.keeps (Keeps.set _ _ _ _) (by simpa using hX.ne hl ht)
  have hf2 := hf.keeps k (fun hm => h.d F (by simpa using hm) rfl)
  refine ⟨hs (h.t.keeps k (hne h.t (by decide))) (by decide), hs (Has.keeps h.g k (hne h.g (by decide))) (by decide), h.x, by simpa using hl.set 0 v', own_keeps ho (Keeps.set _ _ _ _) (fun g hg => by simpa using own_ne ho hl (by decide) g hg), h.b, ⟨fcs, hs hf2 (by decide), hi⟩, ?_⟩
  intro g hg
  rcases hv with e | ⟨g', e, hge⟩
  · exact h.d g (by rw [← e]; exact hg)
  · rw [e] at hg
    injection hg with hg
    have := hf.lt
    omega
theorem SpAt.keeps {w w' : World} {B T G L F : Nat} {v : Value} {st : Nat × List Int} {zs : List Int} (h : SpAt w B T G L F v st zs) (k : Keeps [] w w') : SpAt w' B T G L F v st zs := by
  obtain ⟨fcs, hf, hi⟩ := h.f
  exact ⟨h.t.keeps k (by simp), Has.keeps h.g k (by simp), h.x, h.l.keeps k (by simp), own_keeps h.o k (fun _ _ => by simp), h.b, ⟨fcs, hf.keeps k (by simp), hi⟩, h.d⟩
theorem SpAt.head {w w' : World} {B T G L F : Nat} {v : Value} {st : Nat × List Int} {zs : List Int} (h : SpAt w B T G L F v st zs) (hk : w.grownBy w' v.ownBlock) : Has w' L 26 [v] :=
  h.l.keeps (Keeps.grown hk) (fun hm => own_ne h.o h.l (by decide) _ (by simpa using hm) rfl)
set_option maxRecDepth 100000 in
set_option maxHeartbeats 16000000 in
theorem more_any (B T G L F c : Nat) (v : Value) (st : Nat × List Int) (zs : List Int) (hz : zs.length ≤ 1000) (hst : st.2.length ≤ 100000) (hr : ∀ z ∈ zs, z = -1 ∨ 0 ≤ z ∧ z < 64) (w : World) (hB : B ≤ w.heap.size) (h : SpAt w B T G L F v st zs) :
    Calls Tryd.prog 55 #[.slice (some ⟨F, 0, none⟩) zs.length c, .pointer (some ⟨T, 0, none⟩), .pointer (some ⟨L, 0, none⟩)] w fun e w' => e = .returned (.tuple #[]) ∧ ∃ v', SpAt w' B T G L F v' (moreF st zs) zs ∧ But B G w w' := by
  obtain ⟨i0, hi, hz0, hz1, hz2⟩ := info_fl
  obtain ⟨m, hm⟩ : ∃ m, zs.length = m := ⟨_, rfl⟩
  have HM := Lib.hid hm
  have HR := Lib.hid hr
  have H0 : Hid (SpAt w B T G L F v (moreF st (zs.take 0)) zs ∧ But B G w w ∧ (moreF st (zs.take 0)).2.length ≤ 100000 + 0) := Lib.hid ⟨h, But.refl _ _ _, hst⟩
  rw [hm]
  rw [hm] at hz
  clear h hst hr hm
  go_enter Tryd.func55, Tryd.ntmps55
  go_wp2
  go_loopw [8] (fun i wr => ∃ (j : Nat) (u : Value), i = .int .i64 (j : Int) ∧ j ≤ m ∧ Hid (SpAt wr B T G L F u (moreF st (zs.take j)) zs ∧ But B G w wr ∧ (moreF st (zs.take j)).2.length ≤ 100000 + j)) (fun i _ => m - (intOf i).toNat)
  case atStart => exact ⟨0, v, rfl, by omega, H0⟩
  case round =>
    obtain ⟨j, u, rfl, hj, HS⟩ := hrel
    clear H0
    by_cases hlt : j < m
    · have hi1 : (j : Int) < (m : Int) := by omega
      have hjl : j < zs.length := by rw [HM.out]; exact hlt
      obtain ⟨fcs, hF, hfi⟩ := HS.out.1.f
      have hc : wr.cell? ⟨F, j, none⟩ = some (.int .i64 zs[j]) := (hF.cell j).trans (hfi j hjl)
      have hlF := hF.lt
      have hr := HR.out _ (List.getElem_mem hjl)
      have HV := Lib.hid (fun z hz => more_len (st := st) hjl z hz)
      obtain ⟨z, hzj⟩ : ∃ z, zs[j] = z := ⟨_, rfl⟩
      rw [hzj] at hc hr
      have HV2 := Lib.hid (HV.out z hzj)
      have ct := HS.out.1.t.cell 0
      have lt := HS.out.1.t.lt
      have cl := HS.out.1.l.cell 0
      have ll := HS.out.1.l.lt
      have fl := HS.out.1.l.frozen 0
      simp only [List.getElem?_cons_zero] at ct cl
      clear HV hzj hF hfi
      generalize moreF st (zs.take j) = s at HS HV2
      by_cases hzz : z = -1
      · subst hzz
        have HS2 : Hid (SpAt wr B T G L F u (moreF st (zs.take (j + 1))) zs ∧ But B G w wr ∧ (moreF st (zs.take (j + 1))).2.length ≤ 100000 + (j + 1)) := Lib.hid (by
          rw [HV2.out, moreS, if_pos rfl]
          exact ⟨HS.out.1, HS.out.2.1, by have := HS.out.2.2; omega⟩)
        clear HS HV2
        go_wp2
        go_roundw
        case rel => exact ⟨j + 1, u, by go_num, by omega, HS2⟩
        case measure => simp [intOf]; omega
      · obtain ⟨q, rfl⟩ := Int.eq_ofNat_of_zero_le (show 0 ≤ z by omega)
        have hq : q < 64 := by omega
        have hb1 : ((q : Int) != -1) = true := by simp
        have HC := Lib.hid (has_one G s.1 1 q hq wr HS.out.1.g HS.out.1.x)
        obtain ⟨t, ht⟩ : ∃ t, s.1.testBit q = t := ⟨_, rfl⟩
        rw [ht] at HC
        go_wp2_with fail
        refine HC.out.mono ?_
        rintro e w2 ⟨rfl, rfl⟩
        clear HC
        cases t
        · have HV3 : Hid (moreF st (zs.take (j + 1)) = (s.1 ||| 2 ^ q, s.2 ++ [(q : Int)])) := Lib.hid (by rw [HV2.out, moreS, if_neg hzz, Int.toNat_natCast, ht, if_neg (by simp)])
          have HA := Lib.hid (add_one G s.1 1 q hq wr HS.out.1.g HS.out.1.x)
          clear HV2 ht
          go_wp2_with fail
          refine HA.out.mono ?_
          rintro e w3 ⟨rfl, hg3, k3⟩
          have h3 := HS.out.1.add (LabelM.or_lt HS.out.1.x (Nat.lt_of_lt_of_eq (Nat.pow_lt_pow_right (m := q) (n := 64) (a := 2) (by decide) hq) (by decide))) hg3 k3
          have k4 : Keeps [] w3 (w3.alloc (.cells #[.int .i64 (q : Int)] 3)) := Keeps.alloc [] w3 _
          have h4 := h3.keeps k4
          have hb3 : But B G w w3 := HS.out.2.1.trans (k3.toBut (Nat.le_trans hB HS.out.2.1.size) (fun x hx => by simp at hx; exact .inl hx))
          have hB3 : B ≤ w3.heap.size := Nat.le_trans hB hb3.size
          have hln := HS.out.2.2
          obtain ⟨v2, w5, hrun, ho, hk5, -, hv5⟩ := run_append_own_at (P := Tryd.prog) (w := w3.alloc (.cells #[.int .i64 (q : Int)] 3)) B 26 26 3 i0 (.int .i64 0) 1 8 Tryd.underlying26 hi hz0 hz1 hz2 rfl (by decide) _ _ _ h4.o ⟨w3.heap.size, 0, none⟩ 1 1 [.int .i64 (q : Int)] rfl
            (fun k u hk => by rw [fl_at, (Has.new w3 3 [.int .i64 (q : Int)]).cell]; exact hk)
            (fun u hu => by simp at hu; rw [hu]; rfl) (by unfold maxLen; simp; omega) (by simp; omega) (by simp; omega)
          obtain ⟨a2, n2, c2, rfl⟩ : ∃ a2 n2 c2, v2 = .slice a2 n2 c2 := by
            rcases own_shape ho with ⟨h9, h8, _⟩ | ⟨g', cap', cs', h9, _⟩
            · exact ⟨_, _, _, h9⟩
            · exact ⟨_, _, _, h9⟩
          have h5 := h4.push (z := (q : Int)) (by simpa using ho) hk5 (hv5.imp id (fun e => ⟨_, e, Nat.le_refl _⟩))
          have l5 := h4.head hk5
          have hb5 : But B G w (w5.setCell ⟨L, 0, none⟩ (.slice a2 n2 c2)) := by
            refine But.set (hb3.trans ((k4.toBut hB3 (by simp)).trans ((Keeps.grown hk5).toBut (by simp; omega) (fun x hx => ?_)))) h4.b _
            exact .inr (own_lt h4.o x (by simpa using hx)).1
          have HS2 : Hid (SpAt (w5.setCell ⟨L, 0, none⟩ (.slice a2 n2 c2)) B T G L F (.slice a2 n2 c2) (moreF st (zs.take (j + 1))) zs ∧ But B G w (w5.setCell ⟨L, 0, none⟩ (.slice a2 n2 c2)) ∧ (moreF st (zs.take (j + 1))).2.length ≤ 100000 + (j + 1)) := Lib.hid ⟨by rw [HV3.out]; exact h5, hb5, by rw [HV3.out]; simp; omega⟩
          have HRun := Lib.hid hrun
          have ct3 := h3.t.cell 0
          have cl3 := h3.l.cell 0
          have ll3 := h3.l.lt
          have cl5 := l5.cell 0
          have fl5 := l5.frozen 0
          have ll5 := l5.lt
          simp only [List.getElem?_cons_zero] at ct3 cl3 cl5
          clear HS HA HV3 h3 k4 h4 hb3 hrun ho hk5 hv5 h5 l5 hb5 hg3 k3 hc hlF ct lt cl ll fl
          go_wp2_with (at_builtin; refine wpList_append_run (by rfl) (.tmp 23) (.tmp 25) 26 rfl _ _ _ _ rfl rfl HRun.out ?_)
          go_roundw
          case rel => exact ⟨j + 1, _, by go_num, by omega, HS2⟩
          case measure => simp [intOf]; omega
        · have HS2 : Hid (SpAt wr B T G L F u (moreF st (zs.take (j + 1))) zs ∧ But B G w wr ∧ (moreF st (zs.take (j + 1))).2.length ≤ 100000 + (j + 1)) := Lib.hid (by
            rw [HV2.out, moreS, if_neg hzz, Int.toNat_natCast, ht, if_pos rfl]
            exact ⟨HS.out.1, HS.out.2.1, by have := HS.out.2.2; omega⟩)
          clear HS HV2 ht
          go_wp2
          go_roundw
          case rel => exact ⟨j + 1, u, by go_num, by omega, HS2⟩
          case measure => simp [intOf]; omega
    · have hjm : j = m := by omega
      subst hjm
      have hT : zs.take j = zs := List.take_of_length_le (by rw [HM.out]; exact Nat.le_refl _)
      have HS2 : Hid (SpAt wr B T G L F u (moreF st zs) zs ∧ But B G w wr) := Lib.hid (by have := HS.out; rw [hT] at this; exact ⟨this.1, this.2.1⟩)
      clear HS hT
      go_wp2
      go_end0
      exact ⟨rfl, u, HS2.out⟩
/-- What was found so far, and what was seen (no list is read). -/
structure SpA (w : World) (B T G L : Nat) (v : Value) (st : Nat × List Int) : Prop where
  t : Has w T 54 [.slice (some ⟨G, 0, none⟩) 1 1]
  g : SetAt w G st.1
  x : st.1 < LabelM.M64
  l : Has w L 26 [v]
  o : w.ownsRow B 3 1 v st.2.length (st.2.map (Value.int .i64))
  b : B ≤ L
theorem SpA.to {w : World} {B T G L F : Nat} {v : Value} {st : Nat × List Int} {zs : List Int} (h : SpA w B T G L v st) (hf : RowAt w F zs) (hd : ∀ g, v.ownBlock = some g → g ≠ F) : SpAt w B T G L F v st zs := ⟨h.t, h.g, h.x, h.l, h.o, h.b, hf, hd⟩
theorem SpAt.core {w : World} {B T G L F : Nat} {v : Value} {st : Nat × List Int} {zs : List Int} (h : SpAt w B T G L F v st zs) : SpA w B T G L v st := ⟨h.t, h.g, h.x, h.l, h.o, h.b⟩
theorem SpA.keeps {w w' : World} {B T G L : Nat} {v : Value} {st : Nat × List Int} (h : SpA w B T G L v st) (k : Keeps [] w w') : SpA w' B T G L v st :=
  ⟨h.t.keeps k (by simp), Has.keeps h.g k (by simp), h.x, h.l.keeps k (by simp), own_keeps h.o k (fun _ _ => by simp), h.b⟩
theorem SpA.shape {w : World} {B T G L : Nat} {v : Value} {st : Nat × List Int} (h : SpA w B T G L v st) : (v = .slice none 0 0 ∧ st.2 = []) ∨ ∃ g cap, v = .slice (some ⟨g, 0, none⟩) st.2.length cap ∧ B ≤ g ∧ g < w.heap.size ∧ RowAt w g st.2 := by
  rcases row_of_own h.o with ⟨h1, h2⟩ | ⟨g, cap, h1, h2, h3⟩
  · exact .inl ⟨h2, h1⟩
  · exact .inr ⟨g, cap, h1, h2, h3.lt, h3⟩
/-- One list's share. -/
theorem more_all {n0 : Nat} (B T G L : Nat) (v a : Value) (st : Nat × List Int) (zs : List Int) (hz : zs.length ≤ 1000) (hst : st.2.length ≤ 100000) (hr : ∀ z ∈ zs, z = -1 ∨ 0 ≤ z ∧ z < 64) (w : World) (hB : B ≤ w.heap.size) (h : SpA w B T G L v st)
    (ha : Hands n0 w B a zs) (hv : v = .slice none 0 0 ∨ ∀ g, v.ownBlock = some g → g < n0) :
    Calls Tryd.prog 55 #[a, .pointer (some ⟨T, 0, none⟩), .pointer (some ⟨L, 0, none⟩)] w fun e w' => e = .returned (.tuple #[]) ∧ ∃ v', SpA w' B T G L v' (moreF st zs) ∧ But B G w w' := by
  rcases ha with ⟨rfl, rfl⟩ | ⟨F, c, rfl, hf, hF⟩
  · refine (more_nil T L w).mono ?_
    rintro e w' ⟨rfl, rfl⟩
    exact ⟨rfl, v, h, But.refl _ _ _⟩
  · refine (more_any B T G L F c v st zs hz hst hr w hB (h.to hf ?_)).mono ?_
    · intro g hg e
      subst e
      rcases hv with rfl | hv
      · cases hg
      · have h1 := hv g hg
        have h2 := (own_lt h.o g hg).1
        omega
    · rintro e w' ⟨rfl, v', h2, hb⟩
      exact ⟨rfl, v', h2.core, hb⟩
set_option maxRecDepth 100000 in
set_option maxHeartbeats 16000000 in
theorem spread_writes (bx G s0 lim : Nat) (hlim : lim ≤ 64) (a : Value) (start : List Int) (next : Nat → List Int) (w : World) (hG : G < w.heap.size) (hs : SetAt w G s0) (hx : s0 < LabelM.M64) (ha : Hands 0 w G a start) (hsl : start.length ≤ 1000) (hr : ∀ z ∈ start, z = -1 ∨ 0 ≤ z ∧ z < lim)
    (hn : ∀ n : Nat, n < lim → (next n).length ≤ 1000 ∧ ∀ z ∈ next n, z = -1 ∨ 0 ≤ z ∧ z < lim)
    (HC : ∀ (n : Nat) (W : World), n < lim → But w.heap.size G w W → w.heap.size ≤ W.heap.size → Calls Tryd.prog 36 #[.int .i64 (n : Int), .pointer (some ⟨bx, 0, none⟩)] W fun e W' => ∃ b, e = .returned b ∧ Hands W.heap.size W' G b (next n) ∧ Below W.heap.size W W') :
    Calls Tryd.prog 31 #[a, .slice (some ⟨G, 0, none⟩) 1 1, .func (.func 36) #[] #[.pointer (some ⟨bx, 0, none⟩)]] w fun e w' => ∃ v st, e = .returned v ∧ w'.ownsRow w.heap.size 3 1 v st.2.length (st.2.map (Value.int .i64)) ∧ Spd next start s0 st st.2.length ∧ (∀ z ∈ st.2, z < lim) ∧ But w.heap.size G w w' := by
  have wide : ∀ {zs : List Int}, (∀ z ∈ zs, z = -1 ∨ 0 ≤ z ∧ z < lim) → ∀ z ∈ zs, z = -1 ∨ 0 ≤ z ∧ z < 64 := fun h z hz => (h z hz).imp id (fun h => ⟨h.1, by omega⟩)
  have hst0 : Hid (∀ z ∈ (moreF (s0, []) start).2, z < lim) := Lib.hid fun z hz => by
    have hp := (spr_more (spr_start s0) (wide hr)).pos z hz
    rcases more_only hz with h | h
    · simp at h
    · have := hr z h
      omega
  have ht := Has.new w 54 [.slice (some ⟨G, 0, none⟩) 1 1]
  have k1 : Keeps [] w (w.alloc (.cells #[.slice (some ⟨G, 0, none⟩) 1 1] 54)) := Keeps.alloc [] w _
  have hl := Has.new (w.alloc (.cells #[.slice (some ⟨G, 0, none⟩) 1 1] 54)) 26 [.slice none 0 0]
  have k2 : Keeps [] (w.alloc (.cells #[.slice (some ⟨G, 0, none⟩) 1 1] 54)) ((w.alloc (.cells #[.slice (some ⟨G, 0, none⟩) 1 1] 54)).alloc (.cells #[.slice none 0 0] 26)) := Keeps.alloc [] _ _
  have k3 := k1.trans k2 (by simp)
  rw [World.size_alloc] at hl
  have h0 : SpA ((w.alloc (.cells #[.slice (some ⟨G, 0, none⟩) 1 1] 54)).alloc (.cells #[.slice none 0 0] 26)) w.heap.size w.heap.size G (w.heap.size + 1) (.slice none 0 0) (s0, []) :=
    ⟨ht.keeps k2 (by simp), Has.keeps hs k3 (by simp), hx, hl, World.ownsRow_nil _ _ _ _, by omega⟩
  have hb0 : But w.heap.size G w ((w.alloc (.cells #[.slice (some ⟨G, 0, none⟩) 1 1] 54)).alloc (.cells #[.slice none 0 0] 26)) := k3.toBut (Nat.le_refl _) (by simp)
  have ha2 : Hands 0 ((w.alloc (.cells #[.slice (some ⟨G, 0, none⟩) 1 1] 54)).alloc (.cells #[.slice none 0 0] 26)) w.heap.size a start := by
    rcases ha with h | ⟨F, c, h1, h2, h3⟩
    · exact .inl h
    · exact .inr ⟨F, c, h1, h2.keeps k3 (by simp), .inl h2.lt⟩
  have HM := Lib.hid (more_all w.heap.size w.heap.size G (w.heap.size + 1) (.slice none 0 0) a (s0, []) start hsl (by simp) (wide hr) _ hb0.size h0 ha2 (.inl rfl))
  have HB0 := Lib.hid hb0
  have HS := Lib.hid (spd_start (next := next) (start := start) (s0 := s0) (wide hr))
  have HCn := Lib.hid HC
  have HNx := Lib.hid hn
  clear ht k1 hl k2 k3 h0 hb0 ha2 ha hs hx hsl hr HC hn
  go_enter Tryd.func31, Tryd.ntmps31
  go_wp2_with fail
  refine HM.out.mono ?_
  rintro e w1 ⟨rfl, v1, hsp1, hb1⟩
  have HD0 : Hid (SpA w1 w.heap.size w.heap.size G (w.heap.size + 1) v1 (moreF (s0, []) start) ∧ Spd next start s0 (moreF (s0, []) start) 0 ∧ But w.heap.size G w w1) := Lib.hid ⟨hsp1, HS.out, HB0.out.trans hb1⟩
  have hsz1 : w.heap.size ≤ w1.heap.size := HD0.out.2.2.size
  have c1 := hsp1.l.cell 0
  have l1 := hsp1.l.lt
  simp only [List.getElem?_cons_zero] at c1
  have hlen1 : ∃ a1 n1 cp1, v1 = .slice a1 n1 cp1 := by
    rcases hsp1.shape with ⟨rfl, _⟩ | ⟨g, cap, rfl, _⟩
    · exact ⟨_, _, _, rfl⟩
    · exact ⟨_, _, _, rfl⟩
  obtain ⟨a1, n1, cp1, rfl⟩ := hlen1
  clear HM HB0 HS hsp1 hb1
  go_wp2
  go_loopw [9] (fun i wr => ∃ (j : Nat) (v : Value) (st : Nat × List Int), i = .int .i64 (j : Int) ∧ j ≤ st.2.length ∧ st.2.length ≤ 64 ∧ Hid (∀ z ∈ st.2, z < lim) ∧ Hid (SpA wr w.heap.size w.heap.size G (w.heap.size + 1) v st ∧ Spd next start s0 st j ∧ But w.heap.size G w wr)) (fun i _ => 64 - (intOf i).toNat)
  case atStart => exact ⟨0, _, _, rfl, by omega, HD0.out.2.1.s.len, hst0, HD0⟩
  case round =>
    obtain ⟨j, v, st, rfl, hj, hj64, HLm, HD⟩ := hrel
    clear HD0 c1 l1 hsz1 hst0
    have hszr : w.heap.size ≤ wr.heap.size := HD.out.2.2.size
    have c1 := HD.out.1.l.cell 0
    have l1 := HD.out.1.l.lt
    simp only [List.getElem?_cons_zero] at c1
    by_cases hlt : j < st.2.length
    · rcases HD.out.1.shape with ⟨_, h9⟩ | ⟨g, cap, rfl, hg, hgl, hrow⟩
      · rw [h9] at hlt
        simp at hlt
      · have hc := hrow.cell hlt
        have hz := HD.out.2.1.s.pos _ (List.getElem_mem hlt)
        have HE : Hid (∀ n : Nat, st.2[j] = (n : Int) → n < lim → Spd next start s0 (moreF st (next n)) (j + 1)) := Lib.hid fun n h1 h2 => spd_step HD.out.2.1 hlt h1 (wide (HNx.out n h2).2)
        have hzl := HLm.out _ (List.getElem_mem hlt)
        obtain ⟨z, hzz⟩ : ∃ z, st.2[j] = z := ⟨_, rfl⟩
        rw [hzz] at hc hz HE hzl
        obtain ⟨n, rfl⟩ := Int.eq_ofNat_of_zero_le hz.1
        have hn64 : n < lim := by omega
        have HE2 := Lib.hid (HE.out n rfl hn64)
        have HK := Lib.hid (HCn.out n wr hn64 HD.out.2.2 hszr)
        obtain ⟨m, hm⟩ : ∃ m, st.2.length = m := ⟨_, rfl⟩
        have HMm := Lib.hid hm
        rw [hm] at c1 hlt hj hj64
        have hi1 : (j : Int) < (m : Int) := by omega
        have hi0 : (0 : Int) ≤ (j : Int) := by omega
        have hslot := hm
        clear HE hrow hz hzz hm hslot hzl
        try rw [HMm.out]
        go_wp2_with fail
        refine HK.out.mono ?_
        rintro e w3 ⟨b, rfl, hh3, hb3⟩
        have h3 := HD.out.1.keeps (Keeps.below' hb3 [])
        have HM2 := Lib.hid (more_all w.heap.size w.heap.size G (w.heap.size + 1) _ b st (next n) (HNx.out n hn64).1 (by have := HMm.out; omega) (wide (HNx.out n hn64).2) w3 (Nat.le_trans hszr hb3.size) h3 (hands_mono hh3 (Nat.le_of_lt hG)) (.inr (fun g' hg' => (own_lt HD.out.1.o g' hg').2)))
        have HB3 : Hid (But w.heap.size G w w3) := Lib.hid (HD.out.2.2.trans (But.of hb3 hszr))
        clear HK hh3 hb3 h3 hc hgl hg c1 l1
        go_wp2_with fail
        refine HM2.out.mono ?_
        rintro e w4 ⟨rfl, v4, hsp4, hb4⟩
        have HD4 : Hid (SpA w4 w.heap.size w.heap.size G (w.heap.size + 1) v4 (moreF st (next n)) ∧ Spd next start s0 (moreF st (next n)) (j + 1) ∧ But w.heap.size G w w4) := Lib.hid ⟨hsp4, HE2.out, HB3.out.trans hb4⟩
        have hl4 : (moreF st (next n)).2.length ≤ 64 := HE2.out.s.len
        have HL4 : Hid (∀ z ∈ (moreF st (next n)).2, z < lim) := Lib.hid fun z hz => by
          have hp := HE2.out.s.pos z hz
          rcases more_only hz with h | h
          · exact HLm.out z h
          · have := (HNx.out n hn64).2 z h
            omega
        have hj4 : j + 1 ≤ (moreF st (next n)).2.length := Nat.le_trans (by rw [← HMm.out] at hlt; exact hlt) (more_pre (zs := next n) st).length_le
        clear HM2 HB3 HD hsp4 hb4
        go_wp2
        go_roundw
        case rel => exact ⟨j + 1, v4, _, by go_num, hj4, hl4, HL4, HD4⟩
        case measure => simp [intOf]; omega
    · have hjm : j = st.2.length := by omega
      have HF : Hid (wr.ownsRow w.heap.size 3 1 v st.2.length (st.2.map (Value.int .i64)) ∧ Spd next start s0 st st.2.length ∧ (∀ z ∈ st.2, z < lim) ∧ But w.heap.size G w wr) := Lib.hid ⟨HD.out.1.o, hjm ▸ HD.out.2.1, HLm.out, HD.out.2.2⟩
      rcases HD.out.1.shape with ⟨rfl, h9⟩ | ⟨g, cap, rfl, hg, hgl, hrow⟩
      · have hj0 : j = 0 := by rw [hjm, h9]; rfl
        subst hj0
        clear HD hjm h9 hlt hj
        go_wp2
        go_ret
        exact ⟨_, st, rfl, HF.out⟩
      · obtain ⟨m, hm⟩ : ∃ m, st.2.length = m := ⟨_, rfl⟩
        have HMm := Lib.hid hm
        have HF2 : Hid (wr.ownsRow w.heap.size 3 1 (.slice (some ⟨g, 0, none⟩) m cap) st.2.length (st.2.map (Value.int .i64)) ∧ Spd next start s0 st st.2.length ∧ (∀ z ∈ st.2, z < lim) ∧ But w.heap.size G w wr) := Lib.hid (by rw [← hm]; exact HF.out)
        rw [hm] at c1 hlt hj hj64 hjm
        subst hjm
        have hi1 : ¬ ((j : Int) < (j : Int)) := by omega
        clear HF HD hrow hg hgl hm
        go_wp2
        go_ret
        exact ⟨_, rfl, st.1, st.2, HF2.out⟩
end FlowDz
end Go.Proofs.YtajhkogknpmnbaaDoor
