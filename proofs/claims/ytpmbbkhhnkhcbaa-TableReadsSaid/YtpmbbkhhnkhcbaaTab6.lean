/- Getting what is in a field. -/
import Derived.Test.YtpmbbkhhnkhcbaaTab5
namespace Go.Proofs.Ytpmbbkhhnkhcbaa
open Go.RowKit ObjM Go.Maps
namespace TabD
open LabelM LabelD ValD

def zeroV : V := ⟨0, 0, ⟨#[]⟩, 0⟩
def GetIs (w : World) (v : V) (e : Ending) (w' : World) : Prop := e = .returned v.agg ∧ Below w.heap.size w w'
set_option maxRecDepth 100000 in
set_option maxHeartbeats 4000000 in
theorem get_found (B T lab : Nat) (fs : List Fd) (fv sv nm : Value) (pm : Option Nat) (key : V) (hv : VOk key) (hk : keyB key = true) (w : World) (h : IsT w B T lab fs fv pm sv nm) (i : Nat) (hpl : placeOf fs key = some i) (f : Fd) (hf : fs[i]? = some f) :
    Calls Try.prog 14 #[.pointer (some ⟨T, 0, none⟩), key.agg] w (GetIs w (f.2.with (key.l ||| lab))) := by
  have hp1 : placeI fs key = i := by unfold placeI; rw [hpl]
  have hp2 : placeB fs key = true := by unfold placeB; rw [hpl]; rfl
  have HF := Lib.hid (fun (W : World) (hb : Below w.heap.size w W) => find_key B T lab fs fv sv nm pm key hv hk W (h.below hb))
  rw [hp1, hp2] at HF
  have HT := Lib.hid (fun (W : World) (hb : Below w.heap.size w W) => h.below hb)
  have hlab := h.2.2.2.2.1
  have hfo := (h.2.2.2.2.2.1 f (List.mem_of_getElem? hf)).2
  have HW := Lib.hid (fun (W : World) (lv : Value) hj => with_any f.2 lv (key.l ||| lab) hfo.2.2.2 (or_lt hv.2.2.2 hlab) W hj)
  have HJ2 := Lib.hid (fun (W : World) (n : Nat) h0 h1 => join2c key.l lab hv.2.2.2 hlab W n h0 h1)
  have HLb := Lib.hid (fun (W : World) (hb : Below w.heap.size w W) => tlabel_any T _ (lab : Int) W (h.below hb).1)
  have HRow := Lib.hid (fun (j : Nat) (hj : j < 8) (u : Value) (hu : (fcells f.1 f.2)[j]? = some u) => (by rw [rowF_at fs i f hf j hj]; exact hu : (rowF fs)[i * 8 + j]? = some u))
  have hi : i < fs.length := (List.getElem?_eq_some_iff.1 hf).1
  have HV := Lib.hid hv
  clear h hpl hk hp1 hp2 hlab hfo hf
  obtain ⟨vk, vn, vs, vl⟩ := key
  simp only [V.agg, V.with] at HF HW HJ2 HV ⊢
  have hkb := (Has.new w 35 [.int .i64 vk, .int .i64 vn, .string vs, .int .u64 (vl : Int)]).keepsT (((KeepsT.refl [] _).alloc (.cells #[.int .i64 0, .int .i64 0, .string ⟨#[]⟩, .int .u64 0] 35)).alloc (.cells #[.int .i64 0, .int .i64 0, .string ⟨#[]⟩, .int .u64 0] 35)) (by simp)
  have hrb := (Has.new (w.alloc (.cells #[.int .i64 vk, .int .i64 vn, .string vs, .int .u64 (vl : Int)] 35)) 35 [.int .i64 0, .int .i64 0, .string ⟨#[]⟩, .int .u64 0]).keepsT ((KeepsT.refl [] _).alloc (.cells #[.int .i64 0, .int .i64 0, .string ⟨#[]⟩, .int .u64 0] 35)) (by simp)
  have hvb := Has.new ((w.alloc (.cells #[.int .i64 vk, .int .i64 vn, .string vs, .int .u64 (vl : Int)] 35)).alloc (.cells #[.int .i64 0, .int .i64 0, .string ⟨#[]⟩, .int .u64 0] 35)) 35 [.int .i64 0, .int .i64 0, .string ⟨#[]⟩, .int .u64 0]
  simp only [World.size_alloc] at hrb hvb
  have hA := (((Below.refl w.heap.size w).alloc (Nat.le_refl _) (.cells #[.int .i64 vk, .int .i64 vn, .string vs, .int .u64 (vl : Int)] 35)).alloc (by simp) (.cells #[.int .i64 0, .int .i64 0, .string ⟨#[]⟩, .int .u64 0] 35)).alloc (by simp; omega) (.cells #[.int .i64 0, .int .i64 0, .string ⟨#[]⟩, .int .u64 0] 35)
  have KB1 := Lib.hid hkb
  have RB1 := Lib.hid hrb
  have VB1 := Lib.hid hvb
  have A1 := Lib.hid hA
  clear hkb hrb hvb hA
  obtain ⟨⟨fk, fn, fs1, fl⟩, ⟨yk, yn, ys, yl⟩⟩ := f
  simp only at HW HRow ⊢
  go_enter Try.func14, Try.ntmps14
  go_wp2_with fail
  refine (HF.out _ A1.out).mono ?_
  rintro e w2 ⟨rfl, hb2⟩
  have B2 := Lib.hid (A1.out.trans (hb2.mono (by simp; omega)))
  have kb2 := KB1.out.below hb2 KB1.out.lt
  have vb2 := VB1.out.below hb2 VB1.out.lt
  have rb2 := RB1.out.below hb2 RB1.out.lt
  have KB2 := Lib.hid kb2
  have VB2 := Lib.hid vb2
  have RB2 := Lib.hid rb2
  have t1 := (HT.out _ B2.out).1.cell 1
  have hlT := (HT.out _ B2.out).1.lt
  simp only [List.getElem?_cons_zero, List.getElem?_cons_succ] at t1
  obtain ⟨g, cap, hfv, hgl, g4, g5, g6, g7⟩ : ∃ g cap, fv = .slice (some ⟨g, 0, none⟩) fs.length cap ∧ g < w2.heap.size ∧ w2.cell? ⟨g, i * 8 + 4, none⟩ = some (.int .i64 yk) ∧ w2.cell? ⟨g, i * 8 + 5, none⟩ = some (.int .i64 yn) ∧ w2.cell? ⟨g, i * 8 + 6, none⟩ = some (.string ys) ∧ w2.cell? ⟨g, i * 8 + 7, none⟩ = some (.int .u64 (yl : Int)) := by
    have hO := (HT.out _ B2.out).2.1
    rcases own_shape hO with ⟨_, h9, _⟩ | ⟨g, cap, cs, hfv, _, hh, _⟩
    · omega
    · rw [hfv] at hO
      have go : ∀ j, j < 8 → ∀ u, (fcells ⟨fk, fn, fs1, fl⟩ ⟨yk, yn, ys, yl⟩)[j]? = some u → w2.cell? ⟨g, i * 8 + j, none⟩ = some u := fun j hj u hu => by
        obtain ⟨hj2, hv2⟩ := List.getElem?_eq_some_iff.1 (HRow.out j hj u hu)
        rw [own_cell hO _ hj2, hv2]
      exact ⟨g, cap, hfv, hh.lt, go 4 (by omega) _ rfl, go 5 (by omega) _ rfl, go 6 (by omega) _ rfl, go 7 (by omega) _ rfl⟩
  subst hfv
  have hi1 : (i : Int) < (fs.length : Int) := by omega
  have hi0 : (0 : Int) ≤ (i : Int) := by omega
  have z0 := vb2.cell 0
  have z1 := vb2.cell 1
  have z2 := vb2.cell 2
  have z3 := vb2.cell 3
  simp at z0 z1 z2 z3
  have y0 := vb2.frozen 0
  have y1 := vb2.frozen 1
  have y2 := vb2.frozen 2
  have y3 := vb2.frozen 3
  have hlv := vb2.lt
  have VB3 := Lib.hid (set4_self (x0 := .int .i64 yk) (x1 := .int .i64 yn) (x2 := .string ys) (x3 := .int .u64 (yl : Int)) vb2)
  have KB3 := Lib.hid (set4_has (x0 := .int .i64 yk) (x1 := .int .i64 yn) (x2 := .string ys) (x3 := .int .u64 (yl : Int)) kb2 (b := w.heap.size + 1 + 1) (by omega))
  have RB3 := Lib.hid (set4_has (x0 := .int .i64 yk) (x1 := .int .i64 yn) (x2 := .string ys) (x3 := .int .u64 (yl : Int)) rb2 (b := w.heap.size + 1 + 1) (by omega))
  have B3 := Lib.hid (set4_below (x0 := .int .i64 yk) (x1 := .int .i64 yn) (x2 := .string ys) (x3 := .int .u64 (yl : Int)) (b := w.heap.size + 1 + 1) B2.out (by omega))
  clear hb2 kb2 vb2 rb2 KB1 RB1 VB1 A1 KB2 VB2 RB2 B2
  go_wp2
  clear z0 z1 z2 z3 y0 y1 y2 y3 hlv t1 hlT hgl g4 g5 g6 g7
  generalize World.setCell _ ⟨_, 3, none⟩ _ = W4 at VB3 KB3 RB3 B3 ⊢
  have v0 := VB3.out.cell 0
  have v1 := VB3.out.cell 1
  have v2 := VB3.out.cell 2
  have v3 := VB3.out.cell 3
  have k3 := KB3.out.cell 3
  simp at v0 v1 v2 v3 k3
  have hl1 := VB3.out.lt
  have hl2 := KB3.out.lt
  have r0 := RB3.out.cell 0
  have r1 := RB3.out.cell 1
  have r2 := RB3.out.cell 2
  have r3 := RB3.out.cell 3
  simp at r0 r1 r2 r3
  have HSS : Hid (∀ W', Below W4.heap.size W4 W' → W'.cell? ⟨w.heap.size + 1 + 1, 0, none⟩ = some (.int .i64 yk) ∧ W'.cell? ⟨w.heap.size + 1 + 1, 1, none⟩ = some (.int .i64 yn) ∧ W'.cell? ⟨w.heap.size + 1 + 1, 2, none⟩ = some (.string ys) ∧ W'.cell? ⟨w.heap.size + 1 + 1, 3, none⟩ = some (.int .u64 (yl : Int)) ∧ W'.cell? ⟨w.heap.size, 3, none⟩ = some (.int .u64 (vl : Int))) := Lib.hid (fun W' hb => ⟨(hb.cell (p := ⟨w.heap.size + 1 + 1, 0, none⟩) hl1).trans v0, (hb.cell (p := ⟨w.heap.size + 1 + 1, 1, none⟩) hl1).trans v1, (hb.cell (p := ⟨w.heap.size + 1 + 1, 2, none⟩) hl1).trans v2, (hb.cell (p := ⟨w.heap.size + 1 + 1, 3, none⟩) hl1).trans v3, (hb.cell (p := ⟨w.heap.size, 3, none⟩) hl2).trans k3⟩)
  clear r0 r1 r2 r3
  go_region_held3 (fun W' => W'.cell? ⟨w.heap.size + 1 + 1, 0, none⟩ = some (.int .i64 yk) ∧ W'.cell? ⟨w.heap.size + 1 + 1, 1, none⟩ = some (.int .i64 yn) ∧ W'.cell? ⟨w.heap.size + 1 + 1, 2, none⟩ = some (.string ys) ∧ W'.cell? ⟨w.heap.size + 1 + 1, 3, none⟩ = some (.int .u64 (yl : Int)) ∧ W'.cell? ⟨w.heap.size, 3, none⟩ = some (.int .u64 (vl : Int)))
    (first | exact HSS.out _ (Below.refl _ _).drew | exact HSS.out _ ((Below.refl _ _).alloc (Nat.le_refl _) _).drew | exact HSS.out _ p6 | exact ⟨u0, u1, u2, u3, u4⟩ | skip)
    (first
      | (go_at_call 22
         refine ((HLb.out _ (B3.out.drew))).mono ?_
         rintro e w5 ⟨rfl, hw⟩
         subst hw)
      | (go_at_call 32
         have hn := (Has.new W4 23 [.int .u64 (vl : Int), .int .u64 (lab : Int)]).drew
         refine (HW.out _ (.slice (some ⟨W4.heap.size, 0, none⟩) 2 2) (fun W hb => HJ2.out W W4.heap.size ((hn.below hb hn.lt).cell 0) ((hn.below hb hn.lt).cell 1))).mono ?_
         rintro e w6 ⟨rfl, hb6⟩
         have pA := ((Below.refl W4.heap.size W4).alloc (Nat.le_refl _) (.cells #[.int .u64 (vl : Int), .int .u64 (lab : Int)] 23)).drew
         have p6 := pA.trans (hb6.mono pA.size)
         have rb6 := RB3.out.below p6 RB3.out.lt
         have q0 := rb6.cell 0
         have q1 := rb6.cell 1
         have q2 := rb6.cell 2
         have q3 := rb6.cell 3
         have qf0 := rb6.frozen 0
         have qf1 := rb6.frozen 1
         have qf2 := rb6.frozen 2
         have qf3 := rb6.frozen 3
         have ql := rb6.lt
         simp at q0 q1 q2 q3 qf0 qf1 qf2 qf3
         have vb7 := set4_has (x0 := .int .i64 yk) (x1 := .int .i64 yn) (x2 := .string ys) (x3 := .int .u64 ((yl ||| (vl ||| lab) : Nat) : Int)) (VB3.out.below p6 VB3.out.lt) (b := w.heap.size + 1) (by omega)
         have kb7 := set4_has (x0 := .int .i64 yk) (x1 := .int .i64 yn) (x2 := .string ys) (x3 := .int .u64 ((yl ||| (vl ||| lab) : Nat) : Int)) (KB3.out.below p6 KB3.out.lt) (b := w.heap.size + 1) (by omega)
         have u0 := vb7.cell 0
         have u1 := vb7.cell 1
         have u2 := vb7.cell 2
         have u3 := vb7.cell 3
         have u4 := kb7.cell 3
         simp at u0 u1 u2 u3 u4
         clear vb7 kb7))
  all_goals
    have hb7 := set4_below (x0 := .int .i64 yk) (x1 := .int .i64 yn) (x2 := .string ys) (x3 := .int .u64 ((yl ||| (vl ||| lab) : Nat) : Int)) (b := w.heap.size + 1) (B3.out.trans (p6.mono B3.out.size)) (by omega)
    have e7 := set4_self (x0 := .int .i64 yk) (x1 := .int .i64 yn) (x2 := .string ys) (x3 := .int .u64 ((yl ||| (vl ||| lab) : Nat) : Int)) rb6
    have e0 := e7.cell 0
    have e1 := e7.cell 1
    have e2 := e7.cell 2
    have e3 := e7.cell 3
    simp at e0 e1 e2 e3
    clear e7 q0 q1 q2 q3 qf0 qf1 qf2 qf3 u0 u1 u2 u3 u4
    generalize World.setCell _ ⟨_, 3, none⟩ _ = W9 at hb7 e0 e1 e2 e3 ⊢
    go_wp2
    exact bodyPost_ret (v := .agg #[.int .i64 yk, .int .i64 yn, .string ys, .int .u64 ((yl ||| (vl ||| lab) : Nat) : Int)]) (by simp [results, Try.results14, go_sem, e0, e1, e2, e3]) rfl ⟨rfl, hb7⟩
set_option maxRecDepth 100000 in
set_option maxHeartbeats 4000000 in
theorem get_none (P : Value) (pi : Int) (lab : Nat) (hlab : lab < M64) (key : V) (hv : key.l < M64) (w : World) (hf : ∀ W, Below w.heap.size w W → Calls Try.prog 31 #[P, key.agg] W (FindIs W pi false)) (hl : ∀ W, Below w.heap.size w W → Calls Try.prog 22 #[P] W fun e w' => e = .returned (.int .u64 (lab : Int)) ∧ W = w') :
    Calls Try.prog 14 #[P, key.agg] w (GetIs w ⟨0, 0, ⟨#[]⟩, key.l ||| lab⟩) := by
  have HF := Lib.hid hf
  have HLb := Lib.hid hl
  have HW := Lib.hid (fun (W : World) (lv : Value) hj => with_any ⟨0, 0, ⟨#[]⟩, 0⟩ lv (key.l ||| lab) (by decide) (or_lt hv hlab) W hj)
  have HJ2 := Lib.hid (fun (W : World) (n : Nat) h0 h1 => join2c key.l lab hv hlab W n h0 h1)
  clear hf hl hlab hv
  obtain ⟨vk, vn, vs, vl⟩ := key
  simp only [V.agg, V.with, Nat.zero_or] at HF HW HJ2 ⊢
  have hkb := (Has.new w 35 [.int .i64 vk, .int .i64 vn, .string vs, .int .u64 (vl : Int)]).keepsT (((KeepsT.refl [] _).alloc (.cells #[.int .i64 0, .int .i64 0, .string ⟨#[]⟩, .int .u64 0] 35)).alloc (.cells #[.int .i64 0, .int .i64 0, .string ⟨#[]⟩, .int .u64 0] 35)) (by simp)
  have hrb := (Has.new (w.alloc (.cells #[.int .i64 vk, .int .i64 vn, .string vs, .int .u64 (vl : Int)] 35)) 35 [.int .i64 0, .int .i64 0, .string ⟨#[]⟩, .int .u64 0]).keepsT ((KeepsT.refl [] _).alloc (.cells #[.int .i64 0, .int .i64 0, .string ⟨#[]⟩, .int .u64 0] 35)) (by simp)
  have hvb := Has.new ((w.alloc (.cells #[.int .i64 vk, .int .i64 vn, .string vs, .int .u64 (vl : Int)] 35)).alloc (.cells #[.int .i64 0, .int .i64 0, .string ⟨#[]⟩, .int .u64 0] 35)) 35 [.int .i64 0, .int .i64 0, .string ⟨#[]⟩, .int .u64 0]
  simp only [World.size_alloc] at hrb hvb
  have hA := (((Below.refl w.heap.size w).alloc (Nat.le_refl _) (.cells #[.int .i64 vk, .int .i64 vn, .string vs, .int .u64 (vl : Int)] 35)).alloc (by simp) (.cells #[.int .i64 0, .int .i64 0, .string ⟨#[]⟩, .int .u64 0] 35)).alloc (by simp; omega) (.cells #[.int .i64 0, .int .i64 0, .string ⟨#[]⟩, .int .u64 0] 35)
  have KB1 := Lib.hid hkb
  have RB1 := Lib.hid hrb
  have VB1 := Lib.hid hvb
  have A1 := Lib.hid hA
  clear hkb hrb hvb hA
  go_enter Try.func14, Try.ntmps14
  go_wp2_with fail
  refine (HF.out _ A1.out).mono ?_
  rintro e w2 ⟨rfl, hb2⟩
  have B3 := Lib.hid (A1.out.trans (hb2.mono (by simp; omega)))
  have KB3 := Lib.hid (KB1.out.below hb2 KB1.out.lt)
  have VB3 := Lib.hid (VB1.out.below hb2 VB1.out.lt)
  have RB3 := Lib.hid (RB1.out.below hb2 RB1.out.lt)
  clear hb2 KB1 RB1 VB1 A1
  go_wp2
  have v0 := VB3.out.cell 0
  have v1 := VB3.out.cell 1
  have v2 := VB3.out.cell 2
  have v3 := VB3.out.cell 3
  have k3 := KB3.out.cell 3
  simp at v0 v1 v2 v3 k3
  have hl1 := VB3.out.lt
  have hl2 := KB3.out.lt
  have r0 := RB3.out.cell 0
  have r1 := RB3.out.cell 1
  have r2 := RB3.out.cell 2
  have r3 := RB3.out.cell 3
  simp at r0 r1 r2 r3
  have HSS : Hid (∀ W', Below w2.heap.size w2 W' → W'.cell? ⟨w.heap.size + 1 + 1, 0, none⟩ = some (.int .i64 0) ∧ W'.cell? ⟨w.heap.size + 1 + 1, 1, none⟩ = some (.int .i64 0) ∧ W'.cell? ⟨w.heap.size + 1 + 1, 2, none⟩ = some (.string ⟨#[]⟩) ∧ W'.cell? ⟨w.heap.size + 1 + 1, 3, none⟩ = some (.int .u64 0) ∧ W'.cell? ⟨w.heap.size, 3, none⟩ = some (.int .u64 (vl : Int))) := Lib.hid (fun W' hb => ⟨(hb.cell (p := ⟨w.heap.size + 1 + 1, 0, none⟩) hl1).trans v0, (hb.cell (p := ⟨w.heap.size + 1 + 1, 1, none⟩) hl1).trans v1, (hb.cell (p := ⟨w.heap.size + 1 + 1, 2, none⟩) hl1).trans v2, (hb.cell (p := ⟨w.heap.size + 1 + 1, 3, none⟩) hl1).trans v3, (hb.cell (p := ⟨w.heap.size, 3, none⟩) hl2).trans k3⟩)
  clear r0 r1 r2 r3
  go_region_held3 (fun W' => W'.cell? ⟨w.heap.size + 1 + 1, 0, none⟩ = some (.int .i64 0) ∧ W'.cell? ⟨w.heap.size + 1 + 1, 1, none⟩ = some (.int .i64 0) ∧ W'.cell? ⟨w.heap.size + 1 + 1, 2, none⟩ = some (.string ⟨#[]⟩) ∧ W'.cell? ⟨w.heap.size + 1 + 1, 3, none⟩ = some (.int .u64 0) ∧ W'.cell? ⟨w.heap.size, 3, none⟩ = some (.int .u64 (vl : Int)))
    (first | exact HSS.out _ (Below.refl _ _).drew | exact HSS.out _ ((Below.refl _ _).alloc (Nat.le_refl _) _).drew | exact HSS.out _ p6 | exact ⟨u0, u1, u2, u3, u4⟩ | skip)
    (first
      | (go_at_call 22
         refine ((HLb.out _ B3.out.drew)).mono ?_
         rintro e w5 ⟨rfl, hw⟩
         subst hw)
      | (go_at_call 32
         have hn := (Has.new w2 23 [.int .u64 (vl : Int), .int .u64 (lab : Int)]).drew
         refine (HW.out _ (.slice (some ⟨w2.heap.size, 0, none⟩) 2 2) (fun W hb => HJ2.out W w2.heap.size ((hn.below hb hn.lt).cell 0) ((hn.below hb hn.lt).cell 1))).mono ?_
         rintro e w6 ⟨rfl, hb6⟩
         have pA := ((Below.refl w2.heap.size w2).alloc (Nat.le_refl _) (.cells #[.int .u64 (vl : Int), .int .u64 (lab : Int)] 23)).drew
         have p6 := pA.trans (hb6.mono pA.size)
         have rb6 := RB3.out.below p6 RB3.out.lt
         have q0 := rb6.cell 0
         have q1 := rb6.cell 1
         have q2 := rb6.cell 2
         have q3 := rb6.cell 3
         have qf0 := rb6.frozen 0
         have qf1 := rb6.frozen 1
         have qf2 := rb6.frozen 2
         have qf3 := rb6.frozen 3
         have ql := rb6.lt
         simp at q0 q1 q2 q3 qf0 qf1 qf2 qf3
         have vb7 := set4_has (x0 := .int .i64 0) (x1 := .int .i64 0) (x2 := .string ⟨#[]⟩) (x3 := .int .u64 ((vl ||| lab : Nat) : Int)) (VB3.out.below p6 VB3.out.lt) (b := w.heap.size + 1) (by omega)
         have kb7 := set4_has (x0 := .int .i64 0) (x1 := .int .i64 0) (x2 := .string ⟨#[]⟩) (x3 := .int .u64 ((vl ||| lab : Nat) : Int)) (KB3.out.below p6 KB3.out.lt) (b := w.heap.size + 1) (by omega)
         have u0 := vb7.cell 0
         have u1 := vb7.cell 1
         have u2 := vb7.cell 2
         have u3 := vb7.cell 3
         have u4 := kb7.cell 3
         simp at u0 u1 u2 u3 u4
         clear vb7 kb7))
  all_goals
    have hb7 := set4_below (x0 := .int .i64 0) (x1 := .int .i64 0) (x2 := .string ⟨#[]⟩) (x3 := .int .u64 ((vl ||| lab : Nat) : Int)) (b := w.heap.size + 1) (B3.out.trans (p6.mono B3.out.size)) (by omega)
    have e7 := set4_self (x0 := .int .i64 0) (x1 := .int .i64 0) (x2 := .string ⟨#[]⟩) (x3 := .int .u64 ((vl ||| lab : Nat) : Int)) rb6
    have e0 := e7.cell 0
    have e1 := e7.cell 1
    have e2 := e7.cell 2
    have e3 := e7.cell 3
    simp at e0 e1 e2 e3
    clear e7 q0 q1 q2 q3 qf0 qf1 qf2 qf3 u0 u1 u2 u3 u4
    generalize World.setCell _ ⟨_, 3, none⟩ _ = W9 at hb7 e0 e1 e2 e3 ⊢
    go_wp2
    exact bodyPost_ret (v := .agg #[.int .i64 0, .int .i64 0, .string ⟨#[]⟩, .int .u64 ((vl ||| lab : Nat) : Int)]) (by simp [results, Try.results14, go_sem, e0, e1, e2, e3]) rfl ⟨rfl, hb7⟩
end TabD
end Go.Proofs.Ytpmbbkhhnkhcbaa
