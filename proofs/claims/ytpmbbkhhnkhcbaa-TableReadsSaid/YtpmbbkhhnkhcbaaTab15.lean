/- What the document's Get answers. -/
import Derived.Test.YtpmbbkhhnkhcbaaTab14
import Derived.Deep.RegionHeld3
namespace Go.Proofs.Ytpmbbkhhnkhcbaa
open Go.RowKit ObjM Go.Maps
namespace TabD
open LabelM LabelD ValD

set_option maxRecDepth 100000 in
set_option maxHeartbeats 4000000 in
theorem rget_found (B T lab : Nat) (fs : List Fd) (fv sv : Value) (key : V) (hv : VOk key) (hk : keyB key = true) (w : World) (h : IsR w B T lab fs fv sv) (i : Nat) (hpl : placeOf fs key = some i) (f : Fd) (hf : fs[i]? = some f) :
    Calls Try.prog 28 #[.pointer (some ⟨T, 0, none⟩), key.agg] w (GetIs w (f.2.with (key.l ||| lab))) := by
  have hpl' : refPlace fs key = (i : Int) := by unfold refPlace; rw [hk, hpl]; rfl
  have HF := Lib.hid (fun (W : World) (hb : Below w.heap.size w W) => refFind_any B T lab fs fv sv key W (h.below hb))
  rw [hpl'] at HF
  have HT := Lib.hid (fun (W : World) (hb : Below w.heap.size w W) => h.below hb)
  have hlab := h.2.2.1
  have hfo := (h.2.2.2.1 f (List.mem_of_getElem? hf)).2
  have HW := Lib.hid (fun (W : World) => refWith_any f.2 (key.l ||| lab) hfo.2.2.2 (or_lt hv.2.2.2 hlab) W)
  have HJ := Lib.hid (fun (W : World) => refJoin_any key.l lab hv.2.2.2 hlab W)
  have HRow := Lib.hid (fun (j : Nat) (hj : j < 8) (u : Value) (hu : (fcells f.1 f.2)[j]? = some u) => (by rw [rowF_at fs i f hf j hj]; exact hu : (rowF fs)[i * 8 + j]? = some u))
  have hi : i < fs.length := (List.getElem?_eq_some_iff.1 hf).1
  have HTL := Lib.hid h.1.lt
  have HV := Lib.hid hv
  clear h hpl hpl' hk hlab hfo hf
  obtain ⟨vk, vn, vs, vl⟩ := key
  simp only [V.agg, V.with] at HF HW HV ⊢
  have hkb := (Has.new w 35 [.int .i64 vk, .int .i64 vn, .string vs, .int .u64 (vl : Int)]).keepsT (((KeepsT.refl [] _).alloc (.cells #[.int .i64 0, .int .i64 0, .string ⟨#[]⟩, .int .u64 0] 35)).alloc (.cells #[.int .i64 0, .int .i64 0, .string ⟨#[]⟩, .int .u64 0] 35)) (by simp)
  have hrb := (Has.new (w.alloc (.cells #[.int .i64 vk, .int .i64 vn, .string vs, .int .u64 (vl : Int)] 35)) 35 [.int .i64 0, .int .i64 0, .string ⟨#[]⟩, .int .u64 0]).keepsT ((KeepsT.refl [] _).alloc (.cells #[.int .i64 0, .int .i64 0, .string ⟨#[]⟩, .int .u64 0] 35)) (by simp)
  have hvb := Has.new ((w.alloc (.cells #[.int .i64 vk, .int .i64 vn, .string vs, .int .u64 (vl : Int)] 35)).alloc (.cells #[.int .i64 0, .int .i64 0, .string ⟨#[]⟩, .int .u64 0] 35)) 35 [.int .i64 0, .int .i64 0, .string ⟨#[]⟩, .int .u64 0]
  simp only [World.size_alloc] at hrb hvb
  have hA := (((Below.refl w.heap.size w).alloc (Nat.le_refl _) (.cells #[.int .i64 vk, .int .i64 vn, .string vs, .int .u64 (vl : Int)] 35)).alloc (by simp) (.cells #[.int .i64 0, .int .i64 0, .string ⟨#[]⟩, .int .u64 0] 35)).alloc (by simp; omega) (.cells #[.int .i64 0, .int .i64 0, .string ⟨#[]⟩, .int .u64 0] 35)
  have KB1 := Lib.hid hkb
  have RB1 := Lib.hid hrb
  have VB1 := Lib.hid hvb
  have A1 := Lib.hid hA
  clear hkb hrb hvb hA
  obtain ⟨⟨fk, fn, fs1, fl⟩, ⟨yk, yn, ys, yl⟩⟩ := f
  simp only at HW HRow ⊢
  go_enter Try.func28, Try.ntmps28
  go_wp2_with fail
  refine (HF.out _ A1.out).mono ?_
  rintro e w2 ⟨rfl, hb2⟩
  have B2 := Lib.hid (A1.out.trans (hb2.mono (by simp; omega)))
  have kb2 := KB1.out.below hb2 KB1.out.lt
  have vb2 := VB1.out.below hb2 VB1.out.lt
  have rb2 := RB1.out.below hb2 RB1.out.lt
  have KB2 := Lib.hid kb2
  have VB2 := Lib.hid vb2
  have RB2 := Lib.hid rb2
  have t1 := (HT.out _ B2.out).1.cell 1
  have hlT := (HT.out _ B2.out).1.lt
  simp only [List.getElem?_cons_zero, List.getElem?_cons_succ] at t1
  obtain ⟨g, cap, hfv, hgl, g4, g5, g6, g7⟩ : ∃ g cap, fv = .slice (some ⟨g, 0, none⟩) fs.length cap ∧ g < w2.heap.size ∧ w2.cell? ⟨g, i * 8 + 4, none⟩ = some (.int .i64 yk) ∧ w2.cell? ⟨g, i * 8 + 5, none⟩ = some (.int .i64 yn) ∧ w2.cell? ⟨g, i * 8 + 6, none⟩ = some (.string ys) ∧ w2.cell? ⟨g, i * 8 + 7, none⟩ = some (.int .u64 (yl : Int)) := by
    have hO := (HT.out _ B2.out).2.1
    rcases own_shape hO with ⟨_, h9, _⟩ | ⟨g, cap, cs, hfv, _, hh, _⟩
    · omega
    · rw [hfv] at hO
      have go : ∀ j, j < 8 → ∀ u, (fcells ⟨fk, fn, fs1, fl⟩ ⟨yk, yn, ys, yl⟩)[j]? = some u → w2.cell? ⟨g, i * 8 + j, none⟩ = some u := fun j hj u hu => by
        obtain ⟨hj2, hv2⟩ := List.getElem?_eq_some_iff.1 (HRow.out j hj u hu)
        rw [own_cell hO _ hj2, hv2]
      exact ⟨g, cap, hfv, hh.lt, go 4 (by omega) _ rfl, go 5 (by omega) _ rfl, go 6 (by omega) _ rfl, go 7 (by omega) _ rfl⟩
  subst hfv
  have hi1 : (i : Int) < (fs.length : Int) := by omega
  have hi0 : (0 : Int) ≤ (i : Int) := by omega
  have z0 := vb2.cell 0
  have z1 := vb2.cell 1
  have z2 := vb2.cell 2
  have z3 := vb2.cell 3
  simp at z0 z1 z2 z3
  have y0 := vb2.frozen 0
  have y1 := vb2.frozen 1
  have y2 := vb2.frozen 2
  have y3 := vb2.frozen 3
  have hlv := vb2.lt
  have VB3 := Lib.hid (set4_self (x0 := .int .i64 yk) (x1 := .int .i64 yn) (x2 := .string ys) (x3 := .int .u64 (yl : Int)) vb2)
  have KB3 := Lib.hid (set4_has (x0 := .int .i64 yk) (x1 := .int .i64 yn) (x2 := .string ys) (x3 := .int .u64 (yl : Int)) kb2 (b := w.heap.size + 1 + 1) (by omega))
  have RB3 := Lib.hid (set4_has (x0 := .int .i64 yk) (x1 := .int .i64 yn) (x2 := .string ys) (x3 := .int .u64 (yl : Int)) rb2 (b := w.heap.size + 1 + 1) (by omega))
  have B3 := Lib.hid (set4_below (x0 := .int .i64 yk) (x1 := .int .i64 yn) (x2 := .string ys) (x3 := .int .u64 (yl : Int)) (b := w.heap.size + 1 + 1) B2.out (by omega))
  clear hb2 kb2 vb2 rb2 KB1 RB1 VB1 A1 KB2 VB2 RB2 B2
  go_wp2
  clear z0 z1 z2 z3 y0 y1 y2 y3 hlv t1 hlT hgl g4 g5 g6 g7
  generalize World.setCell _ ⟨_, 3, none⟩ _ = W4 at VB3 KB3 RB3 B3 ⊢
  have v0 := VB3.out.cell 0
  have v1 := VB3.out.cell 1
  have v2 := VB3.out.cell 2
  have v3 := VB3.out.cell 3
  have k3 := KB3.out.cell 3
  simp at v0 v1 v2 v3 k3
  have hl1 := VB3.out.lt
  have hl2 := KB3.out.lt
  have hTT := (HT.out _ B3.out).1
  have t0 := hTT.cell 0
  have hl3 := hTT.lt
  simp only [List.getElem?_cons_zero] at t0
  clear hTT
  have r0 := RB3.out.cell 0
  have r1 := RB3.out.cell 1
  have r2 := RB3.out.cell 2
  have r3 := RB3.out.cell 3
  simp at r0 r1 r2 r3
  have HSS : Hid (∀ W', Below W4.heap.size W4 W' → W'.cell? ⟨w.heap.size + 1 + 1, 0, none⟩ = some (.int .i64 yk) ∧ W'.cell? ⟨w.heap.size + 1 + 1, 1, none⟩ = some (.int .i64 yn) ∧ W'.cell? ⟨w.heap.size + 1 + 1, 2, none⟩ = some (.string ys) ∧ W'.cell? ⟨w.heap.size + 1 + 1, 3, none⟩ = some (.int .u64 (yl : Int)) ∧ W'.cell? ⟨w.heap.size, 3, none⟩ = some (.int .u64 (vl : Int)) ∧ W'.cell? ⟨T, 0, none⟩ = some (.int .u64 (lab : Int))) := Lib.hid (fun W' hb => ⟨(hb.cell (p := ⟨w.heap.size + 1 + 1, 0, none⟩) hl1).trans v0, (hb.cell (p := ⟨w.heap.size + 1 + 1, 1, none⟩) hl1).trans v1, (hb.cell (p := ⟨w.heap.size + 1 + 1, 2, none⟩) hl1).trans v2, (hb.cell (p := ⟨w.heap.size + 1 + 1, 3, none⟩) hl1).trans v3, (hb.cell (p := ⟨w.heap.size, 3, none⟩) hl2).trans k3, (hb.cell (p := ⟨T, 0, none⟩) hl3).trans t0⟩)
  clear r0 r1 r2 r3
  go_region_held3 (fun W' => W'.cell? ⟨w.heap.size + 1 + 1, 0, none⟩ = some (.int .i64 yk) ∧ W'.cell? ⟨w.heap.size + 1 + 1, 1, none⟩ = some (.int .i64 yn) ∧ W'.cell? ⟨w.heap.size + 1 + 1, 2, none⟩ = some (.string ys) ∧ W'.cell? ⟨w.heap.size + 1 + 1, 3, none⟩ = some (.int .u64 (yl : Int)) ∧ W'.cell? ⟨w.heap.size, 3, none⟩ = some (.int .u64 (vl : Int)) ∧ W'.cell? ⟨T, 0, none⟩ = some (.int .u64 (lab : Int)))
    (first | exact HSS.out _ (Below.refl _ _).drew | exact HSS.out _ ((Below.refl _ _).alloc (Nat.le_refl _) _).drew | exact HSS.out _ p6 | exact ⟨u0, u1, u2, u3, u4, u5⟩ | skip)
    (first
      | (go_at_call 16
         with_reducible refine (HJ.out _).mono ?_
         rintro e w5 ⟨rfl, hw⟩
         subst hw)
      | (go_at_call 17
         with_reducible refine (HW.out _).mono ?_
         rintro e w6 ⟨rfl, hb6⟩
         have pA := (Below.refl W4.heap.size W4).drew
         have p6 := pA.trans (hb6.mono pA.size)
         have rb6 := RB3.out.below p6 RB3.out.lt
         have q0 := rb6.cell 0
         have q1 := rb6.cell 1
         have q2 := rb6.cell 2
         have q3 := rb6.cell 3
         have qf0 := rb6.frozen 0
         have qf1 := rb6.frozen 1
         have qf2 := rb6.frozen 2
         have qf3 := rb6.frozen 3
         have ql := rb6.lt
         simp at q0 q1 q2 q3 qf0 qf1 qf2 qf3
         have vb7 := set4_has (x0 := .int .i64 yk) (x1 := .int .i64 yn) (x2 := .string ys) (x3 := .int .u64 ((yl ||| (vl ||| lab) : Nat) : Int)) (VB3.out.below p6 VB3.out.lt) (b := w.heap.size + 1) (by omega)
         have kb7 := set4_has (x0 := .int .i64 yk) (x1 := .int .i64 yn) (x2 := .string ys) (x3 := .int .u64 ((yl ||| (vl ||| lab) : Nat) : Int)) (KB3.out.below p6 KB3.out.lt) (b := w.heap.size + 1) (by omega)
         have u0 := vb7.cell 0
         have u1 := vb7.cell 1
         have u2 := vb7.cell 2
         have u3 := vb7.cell 3
         have u4 := kb7.cell 3
         have u5 : (((( w6.setCell ⟨w.heap.size + 1, 0, none⟩ (.int .i64 yk)).setCell ⟨w.heap.size + 1, 1, none⟩ (.int .i64 yn)).setCell ⟨w.heap.size + 1, 2, none⟩ (.string ys)).setCell ⟨w.heap.size + 1, 3, none⟩ (.int .u64 ((yl ||| (vl ||| lab) : Nat) : Int))).cell? ⟨T, 0, none⟩ = some (.int .u64 (lab : Int)) := (set4_has (HT.out _ (B3.out.trans (p6.mono B3.out.size))).1 (by have := HTL.out; omega)).cell 0
         simp at u0 u1 u2 u3 u4
         clear vb7 kb7))
  all_goals
    have hb7 := set4_below (x0 := .int .i64 yk) (x1 := .int .i64 yn) (x2 := .string ys) (x3 := .int .u64 ((yl ||| (vl ||| lab) : Nat) : Int)) (b := w.heap.size + 1) (B3.out.trans (p6.mono B3.out.size)) (by omega)
    have e7 := set4_self (x0 := .int .i64 yk) (x1 := .int .i64 yn) (x2 := .string ys) (x3 := .int .u64 ((yl ||| (vl ||| lab) : Nat) : Int)) rb6
    have e0 := e7.cell 0
    have e1 := e7.cell 1
    have e2 := e7.cell 2
    have e3 := e7.cell 3
    simp at e0 e1 e2 e3
    clear e7 q0 q1 q2 q3 qf0 qf1 qf2 qf3 u0 u1 u2 u3 u4 u5
    generalize World.setCell _ ⟨_, 3, none⟩ _ = W9 at hb7 e0 e1 e2 e3 ⊢
    go_wp2
    exact bodyPost_ret (v := .agg #[.int .i64 yk, .int .i64 yn, .string ys, .int .u64 ((yl ||| (vl ||| lab) : Nat) : Int)]) (by simp [results, Try.results28, go_sem, e0, e1, e2, e3]) rfl ⟨rfl, hb7⟩
set_option maxRecDepth 100000 in
set_option maxHeartbeats 4000000 in
theorem rget_none (B T lab : Nat) (fs : List Fd) (fv sv : Value) (key : V) (hv : VOk key) (w : World) (h : IsR w B T lab fs fv sv) (hpl : refPlace fs key = -1) :
    Calls Try.prog 28 #[.pointer (some ⟨T, 0, none⟩), key.agg] w (GetIs w ⟨0, 0, ⟨#[]⟩, key.l ||| lab⟩) := by
  have HF := Lib.hid (fun (W : World) (hb : Below w.heap.size w W) => refFind_any B T lab fs fv sv key W (h.below hb))
  rw [hpl] at HF
  have HT := Lib.hid (fun (W : World) (hb : Below w.heap.size w W) => h.below hb)
  have hlab := h.2.2.1
  have HW := Lib.hid (fun (W : World) => refWith_any ⟨0, 0, ⟨#[]⟩, 0⟩ (key.l ||| lab) (by decide) (or_lt hv.2.2.2 hlab) W)
  have HJ := Lib.hid (fun (W : World) => refJoin_any key.l lab hv.2.2.2 hlab W)
  have HTL := Lib.hid h.1.lt
  have HV := Lib.hid hv
  clear h hpl hlab
  obtain ⟨vk, vn, vs, vl⟩ := key
  simp only [V.agg, V.with, Nat.zero_or] at HF HW HV ⊢
  have hkb := (Has.new w 35 [.int .i64 vk, .int .i64 vn, .string vs, .int .u64 (vl : Int)]).keepsT (((KeepsT.refl [] _).alloc (.cells #[.int .i64 0, .int .i64 0, .string ⟨#[]⟩, .int .u64 0] 35)).alloc (.cells #[.int .i64 0, .int .i64 0, .string ⟨#[]⟩, .int .u64 0] 35)) (by simp)
  have hrb := (Has.new (w.alloc (.cells #[.int .i64 vk, .int .i64 vn, .string vs, .int .u64 (vl : Int)] 35)) 35 [.int .i64 0, .int .i64 0, .string ⟨#[]⟩, .int .u64 0]).keepsT ((KeepsT.refl [] _).alloc (.cells #[.int .i64 0, .int .i64 0, .string ⟨#[]⟩, .int .u64 0] 35)) (by simp)
  have hvb := Has.new ((w.alloc (.cells #[.int .i64 vk, .int .i64 vn, .string vs, .int .u64 (vl : Int)] 35)).alloc (.cells #[.int .i64 0, .int .i64 0, .string ⟨#[]⟩, .int .u64 0] 35)) 35 [.int .i64 0, .int .i64 0, .string ⟨#[]⟩, .int .u64 0]
  simp only [World.size_alloc] at hrb hvb
  have hA := (((Below.refl w.heap.size w).alloc (Nat.le_refl _) (.cells #[.int .i64 vk, .int .i64 vn, .string vs, .int .u64 (vl : Int)] 35)).alloc (by simp) (.cells #[.int .i64 0, .int .i64 0, .string ⟨#[]⟩, .int .u64 0] 35)).alloc (by simp; omega) (.cells #[.int .i64 0, .int .i64 0, .string ⟨#[]⟩, .int .u64 0] 35)
  have KB1 := Lib.hid hkb
  have RB1 := Lib.hid hrb
  have VB1 := Lib.hid hvb
  have A1 := Lib.hid hA
  clear hkb hrb hvb hA
  go_enter Try.func28, Try.ntmps28
  go_wp2_with fail
  refine (HF.out _ A1.out).mono ?_
  rintro e w2 ⟨rfl, hb2⟩
  have B2 := Lib.hid (A1.out.trans (hb2.mono (by simp; omega)))
  have kb2 := KB1.out.below hb2 KB1.out.lt
  have vb2 := VB1.out.below hb2 VB1.out.lt
  have rb2 := RB1.out.below hb2 RB1.out.lt
  have KB2 := Lib.hid kb2
  have VB2 := Lib.hid vb2
  have RB2 := Lib.hid rb2
  have KB3 := KB2
  have VB3 := VB2
  have RB3 := RB2
  have B3 := B2
  clear hb2 kb2 vb2 rb2 KB1 RB1 VB1 A1 KB2 VB2 RB2 B2
  go_wp2
  have v0 := VB3.out.cell 0
  have v1 := VB3.out.cell 1
  have v2 := VB3.out.cell 2
  have v3 := VB3.out.cell 3
  have k3 := KB3.out.cell 3
  simp at v0 v1 v2 v3 k3
  have hl1 := VB3.out.lt
  have hl2 := KB3.out.lt
  have hTT := (HT.out _ B3.out).1
  have t0 := hTT.cell 0
  have hl3 := hTT.lt
  simp only [List.getElem?_cons_zero] at t0
  clear hTT
  have r0 := RB3.out.cell 0
  have r1 := RB3.out.cell 1
  have r2 := RB3.out.cell 2
  have r3 := RB3.out.cell 3
  simp at r0 r1 r2 r3
  have HSS : Hid (∀ W', Below w2.heap.size w2 W' → W'.cell? ⟨w.heap.size + 1 + 1, 0, none⟩ = some (.int .i64 0) ∧ W'.cell? ⟨w.heap.size + 1 + 1, 1, none⟩ = some (.int .i64 0) ∧ W'.cell? ⟨w.heap.size + 1 + 1, 2, none⟩ = some (.string ⟨#[]⟩) ∧ W'.cell? ⟨w.heap.size + 1 + 1, 3, none⟩ = some (.int .u64 0) ∧ W'.cell? ⟨w.heap.size, 3, none⟩ = some (.int .u64 (vl : Int)) ∧ W'.cell? ⟨T, 0, none⟩ = some (.int .u64 (lab : Int))) := Lib.hid (fun W' hb => ⟨(hb.cell (p := ⟨w.heap.size + 1 + 1, 0, none⟩) hl1).trans v0, (hb.cell (p := ⟨w.heap.size + 1 + 1, 1, none⟩) hl1).trans v1, (hb.cell (p := ⟨w.heap.size + 1 + 1, 2, none⟩) hl1).trans v2, (hb.cell (p := ⟨w.heap.size + 1 + 1, 3, none⟩) hl1).trans v3, (hb.cell (p := ⟨w.heap.size, 3, none⟩) hl2).trans k3, (hb.cell (p := ⟨T, 0, none⟩) hl3).trans t0⟩)
  clear r0 r1 r2 r3
  go_region_held3 (fun W' => W'.cell? ⟨w.heap.size + 1 + 1, 0, none⟩ = some (.int .i64 0) ∧ W'.cell? ⟨w.heap.size + 1 + 1, 1, none⟩ = some (.int .i64 0) ∧ W'.cell? ⟨w.heap.size + 1 + 1, 2, none⟩ = some (.string ⟨#[]⟩) ∧ W'.cell? ⟨w.heap.size + 1 + 1, 3, none⟩ = some (.int .u64 0) ∧ W'.cell? ⟨w.heap.size, 3, none⟩ = some (.int .u64 (vl : Int)) ∧ W'.cell? ⟨T, 0, none⟩ = some (.int .u64 (lab : Int)))
    (first | exact HSS.out _ (Below.refl _ _).drew | exact HSS.out _ ((Below.refl _ _).alloc (Nat.le_refl _) _).drew | exact HSS.out _ p6 | exact ⟨u0, u1, u2, u3, u4, u5⟩ | skip)
    (first
      | (go_at_call 16
         with_reducible refine (HJ.out _).mono ?_
         rintro e w5 ⟨rfl, hw⟩
         subst hw)
      | (go_at_call 17
         refine (HW.out _).mono ?_
         rintro e w6 ⟨rfl, hb6⟩
         have pA := (Below.refl w2.heap.size w2).drew
         have p6 := pA.trans (hb6.mono pA.size)
         have rb6 := RB3.out.below p6 RB3.out.lt
         have q0 := rb6.cell 0
         have q1 := rb6.cell 1
         have q2 := rb6.cell 2
         have q3 := rb6.cell 3
         have qf0 := rb6.frozen 0
         have qf1 := rb6.frozen 1
         have qf2 := rb6.frozen 2
         have qf3 := rb6.frozen 3
         have ql := rb6.lt
         simp at q0 q1 q2 q3 qf0 qf1 qf2 qf3
         have vb7 := set4_has (x0 := .int .i64 0) (x1 := .int .i64 0) (x2 := .string ⟨#[]⟩) (x3 := .int .u64 ((vl ||| lab : Nat) : Int)) (VB3.out.below p6 VB3.out.lt) (b := w.heap.size + 1) (by omega)
         have kb7 := set4_has (x0 := .int .i64 0) (x1 := .int .i64 0) (x2 := .string ⟨#[]⟩) (x3 := .int .u64 ((vl ||| lab : Nat) : Int)) (KB3.out.below p6 KB3.out.lt) (b := w.heap.size + 1) (by omega)
         have u0 := vb7.cell 0
         have u1 := vb7.cell 1
         have u2 := vb7.cell 2
         have u3 := vb7.cell 3
         have u4 := kb7.cell 3
         have u5 : (((( w6.setCell ⟨w.heap.size + 1, 0, none⟩ (.int .i64 0)).setCell ⟨w.heap.size + 1, 1, none⟩ (.int .i64 0)).setCell ⟨w.heap.size + 1, 2, none⟩ (.string ⟨#[]⟩)).setCell ⟨w.heap.size + 1, 3, none⟩ (.int .u64 ((vl ||| lab : Nat) : Int))).cell? ⟨T, 0, none⟩ = some (.int .u64 (lab : Int)) := (set4_has (HT.out _ (B3.out.trans (p6.mono B3.out.size))).1 (by have := HTL.out; omega)).cell 0
         simp at u0 u1 u2 u3 u4
         clear vb7 kb7))
  all_goals
    have hb7 := set4_below (x0 := .int .i64 0) (x1 := .int .i64 0) (x2 := .string ⟨#[]⟩) (x3 := .int .u64 ((vl ||| lab : Nat) : Int)) (b := w.heap.size + 1) (B3.out.trans (p6.mono B3.out.size)) (by omega)
    have e7 := set4_self (x0 := .int .i64 0) (x1 := .int .i64 0) (x2 := .string ⟨#[]⟩) (x3 := .int .u64 ((vl ||| lab : Nat) : Int)) rb6
    have e0 := e7.cell 0
    have e1 := e7.cell 1
    have e2 := e7.cell 2
    have e3 := e7.cell 3
    simp at e0 e1 e2 e3
    clear e7 q0 q1 q2 q3 qf0 qf1 qf2 qf3 u0 u1 u2 u3 u4 u5
    generalize World.setCell _ ⟨_, 3, none⟩ _ = W9 at hb7 e0 e1 e2 e3 ⊢
    go_wp2
    exact bodyPost_ret (v := .agg #[.int .i64 0, .int .i64 0, .string ⟨#[]⟩, .int .u64 ((vl ||| lab : Nat) : Int)]) (by simp [results, Try.results28, go_sem, e0, e1, e2, e3]) rfl ⟨rfl, hb7⟩
/-- What the document's Get answers. -/
theorem rget_any (B T lab : Nat) (fs : List Fd) (fv sv : Value) (key : V) (hv : VOk key) (w : World) (h : IsR w B T lab fs fv sv) :
    Calls Try.prog 28 #[.pointer (some ⟨T, 0, none⟩), key.agg] w (GetIs w ((valOf fs key).with (key.l ||| lab))) := by
  have z : (⟨0, 0, ⟨#[]⟩, 0⟩ : V).with (key.l ||| lab) = ⟨0, 0, ⟨#[]⟩, key.l ||| lab⟩ := by simp [V.with]
  cases hk : keyB key with
  | false =>
    have e : valOf fs key = ⟨0, 0, ⟨#[]⟩, 0⟩ := by unfold valOf; rw [hk]; rfl
    rw [e, z]
    exact rget_none B T lab fs fv sv key hv w h (by unfold refPlace; rw [hk]; rfl)
  | true =>
    cases hp : placeOf fs key with
    | none =>
      have e : valOf fs key = ⟨0, 0, ⟨#[]⟩, 0⟩ := by unfold valOf; rw [hk, hp]; rfl
      rw [e, z]
      exact rget_none B T lab fs fv sv key hv w h (by unfold refPlace; rw [hk, hp]; rfl)
    | some i =>
      obtain ⟨f, hf, -⟩ := placeOf_some hp
      have e : valOf fs key = f.2 := by unfold valOf; rw [hk, hp]; simp [hf]
      rw [e]
      exact rget_found B T lab fs fv sv key hv hk w h i hp f hf
end TabD
end Go.Proofs.Ytpmbbkhhnkhcbaa
