/- Channels by definition. -/
import Derived.Test.YteohgacblilfmaaWorld6
namespace Go.Proofs.Yteohgacblilfmaa
open Go.RowKit ObjM Shell Go.ChangeShapes Go.WideShapes
namespace WorldD
open LabelM LabelD TraceD

/-- Block R is a world by definition: masks, slices, places, events. -/
def refCells (l : List Ch) (sv : Value) : List Value := (l.map fun c => Value.int .u64 (c.m : Int)) ++ (l.map Ch.v) ++ (l.map fun c => Value.int .i64 (c.n : Int)) ++ [sv]
theorem refCells_at {l : List Ch} {sv : Value} (hl : l.length = 8) {k : Nat} {c : Ch} (hc : l[k]? = some c) : (refCells l sv)[k]? = some (.int .u64 (c.m : Int)) ∧ (refCells l sv)[8 + k]? = some c.v ∧ (refCells l sv)[16 + k]? = some (.int .i64 (c.n : Int)) := by
  have hk : k < 8 := by have := (List.getElem?_eq_some_iff.1 hc).1; omega
  unfold refCells
  refine ⟨?_, ?_, ?_⟩
  · rw [List.getElem?_append_left (by simp; omega), List.getElem?_append_left (by simp; omega), List.getElem?_append_left (by simp; omega), List.getElem?_map, hc]
    rfl
  · rw [List.getElem?_append_left (by simp; omega), List.getElem?_append_left (by simp; omega), List.getElem?_append_right (by simp; omega), List.getElem?_map]
    simp [hl, hc]
  · rw [List.getElem?_append_left (by simp; omega), List.getElem?_append_right (by simp; omega), List.getElem?_map]
    simp [hl, hc, show 16 + k - (8 + 8) = k by omega]
theorem refCells_sv {l : List Ch} {sv : Value} (hl : l.length = 8) : (refCells l sv)[24]? = some sv := by
  unfold refCells
  rw [List.getElem?_append_right (by simp; omega)]
  simp [hl]
theorem refCells_setN {l : List Ch} {sv : Value} (hl : l.length = 8) {k : Nat} {c : Ch} (hc : l[k]? = some c) (n : Nat) : (refCells l sv).set (16 + k) (.int .i64 (n : Int)) = refCells (l.set k { c with n := n }) sv := by
  have hk : k < 8 := by have := (List.getElem?_eq_some_iff.1 hc).1; omega
  unfold refCells
  rw [List.set_append_left _ _ (by simp; omega), List.set_append_right _ _ (by simp; omega)]
  have e1 : (l.set k { c with n := n }).map (fun c => Value.int .u64 (c.m : Int)) = l.map fun c => Value.int .u64 (c.m : Int) := by
    rw [List.map_set]
    apply List.ext_getElem?
    intro i
    by_cases e : k = i
    · subst e
      rw [List.getElem?_set_self (by simp; omega), List.getElem?_map, hc]
      rfl
    · rw [List.getElem?_set_ne e]
  have e2 : (l.set k { c with n := n }).map Ch.v = l.map Ch.v := by
    rw [List.map_set]
    apply List.ext_getElem?
    intro i
    by_cases e : k = i
    · subst e
      rw [List.getElem?_set_self (by simp; omega), List.getElem?_map, hc]
      rfl
    · rw [List.getElem?_set_ne e]
  rw [e1, e2, List.map_set]
  congr 3
  simp [hl]
theorem refCells_setV {l : List Ch} {sv v : Value} (hl : l.length = 8) : (refCells l sv).set 24 v = refCells l v := by
  unfold refCells
  rw [List.set_append_right _ _ (by simp; omega)]
  simp [hl]
def IsR (w : World) (B R : Nat) (l : List Ch) (ev : List Ev) : Prop :=
  ∃ sv, Has w R 37 (refCells l sv) ∧ w.ownsRow B 65 4 sv ev.length (rowE ev) ∧ B ≤ R ∧ l.length = 8 ∧ ∀ c ∈ l, c.m < M64 ∧ c.n ≤ c.xs.length ∧ c.xs.length ≤ 17592186044416
theorem IsR.keeps {w w' : World} {B G : Nat} {l : List Ch} {ev : List Ev} {ts : List TypeId} (h : IsR w B G l ev) (k : KeepsT ts w w') (h1 : 37 ∉ ts) (h2 : 65 ∉ ts) : IsR w' B G l ev := by
  obtain ⟨sv, hG, hO, hB, hl, hc⟩ := h
  exact ⟨sv, hG.keepsT k h1, own_keepsT hO k h2, hB, hl, hc⟩
theorem IsR.below {w w' : World} {B G : Nat} {l : List Ch} {ev : List Ev} (h : IsR w B G l ev) (hb : Below w.heap.size w w') : IsR w' B G l ev := h.keeps (KeepsT.below hb []) (by simp) (by simp)
theorem IsR.cells {w : World} {R : Nat} {l : List Ch} {sv : Value} (hl : l.length = 8) (hG : Has w R 37 (refCells l sv)) {k : Nat} {c : Ch} (hc : l[k]? = some c) :
    w.cell? ⟨R, k, none⟩ = some (.int .u64 (c.m : Int)) ∧ w.cell? ⟨R, 8 + k, none⟩ = some c.v ∧ w.cell? ⟨R, 16 + k, none⟩ = some (.int .i64 (c.n : Int)) := by
  obtain ⟨h0, h1, h2⟩ := refCells_at (sv := sv) hl hc
  exact ⟨(hG.cell _).trans h0, (hG.cell _).trans h1, (hG.cell _).trans h2⟩
def RReadOut (w : World) (kd n lab err : Int) (e : Ending) (w' : World) : Prop :=
  e = .returned (.tuple #[valA kd n lab ⟨#[]⟩, .int .i64 err]) ∧ Below w.heap.size w w'
set_option maxRecDepth 100000 in
set_option maxHeartbeats 1000000 in
theorem refRead_out (p : Addr) (pc : Int) (k : Int) (hk : k < 0 ∨ 8 ≤ k) (w : World) : Calls Try.prog 10 #[.pointer (some p), .int .u64 pc, .int .i64 k] w (RReadOut w 0 0 0 1) := by
  rcases (show (k < 0) ∨ (¬ k < 0 ∧ (7 : Int) < k) by omega) with h | ⟨h, h7⟩
  all_goals
    clear hk
    go_enter Try.func10, Try.ntmps10
    go_wp2
    exact bodyPost_ret (v := .tuple #[valA 0 0 0 ⟨#[]⟩, .int .i64 1]) (by simp [results, Try.results10, go_sem, valA]) rfl ⟨rfl, (Below.refl _ _).alloc (Nat.le_refl _) _⟩
set_option maxRecDepth 100000 in
set_option maxHeartbeats 1000000 in
theorem refRead_no (R : Nat) (l : List Ch) (hl : l.length = 8) (sv : Value) (pc k : Nat) (hpc : pc < M64) (c : Ch) (hc : l[k]? = some c) (hk : k < 8) (hm : c.m < M64) (hfl : flowsB pc c.m = false) (w : World) (hG : Has w R 37 (refCells l sv)) :
    Calls Try.prog 10 #[.pointer (some ⟨R, 0, none⟩), .int .u64 (pc : Int), .int .i64 (k : Int)] w (RReadOut w 0 0 0 40) := by
  obtain ⟨c0, c1, c2⟩ := IsR.cells hl hG hc
  have hlt := hG.lt
  have hk8i : (k : Int) < 8 := by omega
  have hk7 : ¬ (7 : Int) < (k : Int) := by omega
  have hk0 : ¬ (k : Int) < 0 := by omega
  have hk0i : (0 : Int) ≤ (k : Int) := by omega
  have HF := fun W => Lib.hid (refFlows_any pc c.m hpc hm W)
  rw [hfl] at HF
  obtain ⟨m, v, xs, n⟩ := c
  simp only at c0 c1 c2 HF
  clear hG hc hm hfl hpc
  go_enter Try.func10, Try.ntmps10
  go_wp2_with fail
  with_reducible refine ((HF _).out).mono ?_
  rintro e w1 ⟨rfl, hw⟩
  subst hw
  go_wp2
  exact bodyPost_ret (v := .tuple #[valA 0 0 0 ⟨#[]⟩, .int .i64 40]) (by simp [results, Try.results10, go_sem, valA]) rfl ⟨rfl, (Below.refl _ _).alloc (Nat.le_refl _) _⟩
set_option maxRecDepth 100000 in
set_option maxHeartbeats 1000000 in
theorem refRead_end (R : Nat) (l : List Ch) (hl : l.length = 8) (sv : Value) (pc k : Nat) (hpc : pc < M64) (c : Ch) (hc : l[k]? = some c) (hk : k < 8) (hm : c.m < M64) (hfl : flowsB pc c.m = true) (av : Option Addr) (cp : Nat) (hv : c.v = .slice av c.xs.length cp) (hn : c.n = c.xs.length) (w : World) (hG : Has w R 37 (refCells l sv)) :
    Calls Try.prog 10 #[.pointer (some ⟨R, 0, none⟩), .int .u64 (pc : Int), .int .i64 (k : Int)] w (RReadOut w 0 0 c.m 0) := by
  obtain ⟨c0, c1, c2⟩ := IsR.cells hl hG hc
  have hlt := hG.lt
  have hk8i : (k : Int) < 8 := by omega
  have hk7 : ¬ (7 : Int) < (k : Int) := by omega
  have hk0 : ¬ (k : Int) < 0 := by omega
  have hk0i : (0 : Int) ≤ (k : Int) := by omega
  have HF := fun W => Lib.hid (refFlows_any pc c.m hpc hm W)
  rw [hfl] at HF
  obtain ⟨m, v, xs, n⟩ := c
  simp only at c0 c1 c2 HF hv hn
  subst hv hn
  clear hG hc hm hfl hpc
  go_enter Try.func10, Try.ntmps10
  go_wp2_with fail
  with_reducible refine ((HF _).out).mono ?_
  rintro e w1 ⟨rfl, hw⟩
  subst hw
  go_wp2
  go_quiet (fail)
  go_wp2
  refine bodyPost_ret (v := .tuple #[valA 0 0 m ⟨#[]⟩, .int .i64 0]) (by simp [results, Try.results10, go_sem, valA]) rfl ⟨rfl, ?_⟩
  exact set4_below (below_drewN (((Below.refl _ w).alloc (Nat.le_refl _) _).alloc (by simp) _) nq) (Nat.le_refl _)
def RReadDid (w : World) (B R : Nat) (l : List Ch) (sv : Value) (k : Nat) (c : Ch) (e : Ending) (w' : World) : Prop :=
  e = .returned (.tuple #[valA 2 (c.xs.getD c.n 0) c.m ⟨#[]⟩, .int .i64 0]) ∧ Has w' R 37 (refCells (l.set k { c with n := c.n + 1 }) sv) ∧ KeepsT [37] w w' ∧ Below B w w'
set_option maxRecDepth 100000 in
set_option maxHeartbeats 2000000 in
theorem refRead_num (B R : Nat) (hBR : B ≤ R) (l : List Ch) (hl : l.length = 8) (sv : Value) (pc k : Nat) (hpc : pc < M64) (c : Ch) (hc : l[k]? = some c) (hk : k < 8) (hm : c.m < M64) (hfl : flowsB pc c.m = true) (hxl : c.xs.length ≤ 17592186044416) (hn : c.n < c.xs.length) (w : World) (hBw : B ≤ w.heap.size) (hG : Has w R 37 (refCells l sv))
    (ho : IntsAt w .i64 c.v c.xs) :
    Calls Try.prog 10 #[.pointer (some ⟨R, 0, none⟩), .int .u64 (pc : Int), .int .i64 (k : Int)] w (RReadDid w B R l sv k c) := by
  obtain ⟨c0, c1, c2⟩ := IsR.cells hl hG hc
  have hlt := hG.lt
  have f2 := hG.frozen (16 + k)
  have hk8i : (k : Int) < 8 := by omega
  have hk7 : ¬ (7 : Int) < (k : Int) := by omega
  have hk0 : ¬ (k : Int) < 0 := by omega
  have hk0i : (0 : Int) ≤ (k : Int) := by omega
  have HF := fun W => Lib.hid (refFlows_any pc c.m hpc hm W)
  rw [hfl] at HF
  have hgc : ∃ g o cap, c.v = .slice (some ⟨g, o, none⟩) c.xs.length cap ∧ w.cell? ⟨g, o + c.n, none⟩ = some (.int .i64 (c.xs.getD c.n 0)) ∧ g < w.heap.size := by
    rcases ho with ⟨_, h⟩ | ⟨g, o, cap, hv, _, _, hg, hh⟩
    · rw [h] at hn
      simp at hn
    · refine ⟨g, o, cap, hv, hh c.n _ ?_, hg⟩
      rw [List.getD_eq_getElem?_getD, List.getElem?_eq_getElem hn]
      rfl
  obtain ⟨g, o, cap, hv, hx, hgl⟩ := hgc
  obtain ⟨m, v, xs, n⟩ := c
  simp only at c0 c1 c2 HF hv hn hx hxl
  subst hv
  have HG := Lib.hid hG
  have HC := Lib.hid hc
  obtain ⟨x, hxe⟩ : ∃ x, xs.getD n 0 = x := ⟨_, rfl⟩
  have HXE := Lib.hid hxe
  rw [hxe] at hx
  have hni : (n : Int) < (xs.length : Int) := by omega
  have hn0 : (0 : Int) ≤ (n : Int) := by omega
  clear hG hc hm hfl hpc ho hxe
  go_enter Try.func10, Try.ntmps10
  go_wp2_with fail
  with_reducible refine ((HF _).out).mono ?_
  rintro e w1 ⟨rfl, hw⟩
  subst hw
  go_wp2
  go_quiet (fail)
  go_wp2
  have hA := ((KeepsT.refl [] w).alloc (.cells #[.int .i64 0, .int .i64 0, .string ⟨#[]⟩, .int .u64 0] 39)).alloc (.cells #[.int .i64 0, .int .i64 0, .string ⟨#[]⟩, .int .u64 (m : Int)] 39)
  have r0 := ((Has.new w 39 [.int .i64 0, .int .i64 0, .string ⟨#[]⟩, .int .u64 0]).keepsT ((KeepsT.refl [] _).alloc (.cells #[.int .i64 0, .int .i64 0, .string ⟨#[]⟩, .int .u64 (m : Int)] 39)) (by simp)).keepsT ((KeepsT.refl [] _).drewN nq) (by simp)
  have r1 := (Has.new (w.alloc (.cells #[.int .i64 0, .int .i64 0, .string ⟨#[]⟩, .int .u64 0] 39)) 39 [.int .i64 0, .int .i64 0, .string ⟨#[]⟩, .int .u64 (m : Int)]).keepsT ((KeepsT.refl [] _).drewN nq) (by simp)
  simp only [World.size_alloc] at r1
  have rK := Lib.hid (hA.drewN nq)
  have rB := Lib.hid (below_drewN (((Below.refl B w).alloc hBw (.cells #[.int .i64 0, .int .i64 0, .string ⟨#[]⟩, .int .u64 0] 39)).alloc (by simp; omega) (.cells #[.int .i64 0, .int .i64 0, .string ⟨#[]⟩, .int .u64 (m : Int)] 39)) nq)
  have hx2 : ((w.alloc (.cells #[.int .i64 0, .int .i64 0, .string ⟨#[]⟩, .int .u64 0] 39)).alloc (.cells #[.int .i64 0, .int .i64 0, .string ⟨#[]⟩, .int .u64 (m : Int)] 39)).cell? ⟨g, o + n, none⟩ = some (.int .i64 x) := by
    rw [World.cell?_alloc_old _ _ _ (by simp; omega), World.cell?_alloc_old _ _ _ (by simp; omega)]
    exact hx
  replace hx2 : (((w.alloc (.cells #[.int .i64 0, .int .i64 0, .string ⟨#[]⟩, .int .u64 0] 39)).alloc (.cells #[.int .i64 0, .int .i64 0, .string ⟨#[]⟩, .int .u64 (m : Int)] 39)).drewN nq).cell? ⟨g, o + n, none⟩ = some (.int .i64 x) := hx2
  clear hA c0 c1 c2 f2 hx
  generalize World.drewN _ nq = w2 at r0 r1 rK rB hx2 ⊢
  have hG2 := HG.out.keepsT rK.out (by simp)
  have hl2 := hG2.lt
  obtain ⟨c0, c1, c2⟩ := IsR.cells hl hG2 HC.out
  simp only at c0 c1 c2
  have e0 := r1.cell 0
  have e1 := r1.cell 1
  simp at e0 e1
  have hle := r1.lt
  have ef0 := r1.frozen 0
  have ef1 := r1.frozen 1
  have n1 : w.heap.size + 1 ≠ R := by omega
  have n2 : w.heap.size + 1 ≠ g := by omega
  have R0 := Lib.hid r0
  have R1 := Lib.hid r1
  have G2 := Lib.hid hG2
  clear r0 r1 hG2
  clear HF
  go_region_held3 (fun W' => W'.cell? ⟨R, 8 + k, none⟩ = some (.slice (some ⟨g, o, none⟩) xs.length cap) ∧ W'.cell? ⟨R, 16 + k, none⟩ = some (.int .i64 (n : Int)) ∧ W'.cell? ⟨g, o + n, none⟩ = some (.int .i64 x))
    (first | exact ⟨c1, c2, hx2⟩ | exact ⟨(cell_ne n1).trans c1, (cell_ne n1).trans c2, (cell_ne n2).trans hx2⟩ | exact ⟨(cell_ne n1).trans ((cell_ne n1).trans c1), (cell_ne n1).trans ((cell_ne n1).trans c2), (cell_ne n2).trans ((cell_ne n2).trans hx2)⟩) (fail)
  have R3 := (((R1.out).set 0 (.int .i64 2)).set 1 (.int .i64 x)).drew
  have G3 := (((G2.out).keeps (Keeps.set _ (w.heap.size + 1) 0 (.int .i64 2)) (by simp; omega)).keeps (Keeps.set _ (w.heap.size + 1) 1 (.int .i64 x)) (by simp; omega)).drew
  have Z3 := (((R0.out).keeps (Keeps.set _ (w.heap.size + 1) 0 (.int .i64 2)) (by simp)).keeps (Keeps.set _ (w.heap.size + 1) 1 (.int .i64 x)) (by simp)).drew
  have K3 := (((rK.out).set R1.out (.inr (by omega)) 0 (.int .i64 2)).set (R1.out.set 0 (.int .i64 2)) (.inr (by omega)) 1 (.int .i64 x)).drew
  have B3 := (((rB.out).setCell (p := ⟨w.heap.size + 1, 0, none⟩) (by simp; omega) (.int .i64 2)).setCell (p := ⟨w.heap.size + 1, 1, none⟩) (by simp; omega) (.int .i64 x)).drew
  clear R0 R1 G2 rK rB c0 c1 c2 e0 e1 ef0 ef1 hx2 hl2 hle
  generalize World.drew _ = w3 at R3 G3 Z3 K3 B3 ⊢
  have R4 := R3.drew
  have G4 := G3.drew
  have Z4 := Z3.drew
  have K4 := Lib.hid K3.drew
  have B4 := Lib.hid B3.drew
  clear R3 G3 Z3 K3 B3
  go_wp2
  refine wp_region_still_tail 10 (by kernel_rfl) (by kernel_rfl) ?_
  simp only [List.take_succ_cons, List.take_zero, List.drop_succ_cons, List.drop_zero]
  change wpStill _ _ (World.drew _) (fun a' => wpList _ _ _ _ a' (World.drew _)) _ _
  generalize World.drew _ = w4 at R4 G4 Z4 K4 B4 ⊢
  obtain ⟨c0, c1, c2⟩ := IsR.cells hl G4 HC.out
  simp only at c0 c1 c2
  have f2 := G4.frozen (16 + k)
  have hl4 := G4.lt
  have G5 := Lib.hid (G4.set (16 + k) (.int .i64 ((n + 1 : Nat) : Int)))
  have nz : w.heap.size ≠ R := by omega
  have R5 := Lib.hid (R4.keeps (Keeps.set _ R (16 + k) (.int .i64 ((n : Int) + 1))) (by simpa using n1))
  have Z5 := Lib.hid (Z4.keeps (Keeps.set _ R (16 + k) (.int .i64 ((n : Int) + 1))) (by simpa using nz))
  have K5 := Lib.hid ((K4.out.mono (ts := [37]) (by simp)).set G4 (.inl (by simp)) (16 + k) (.int .i64 ((n : Int) + 1)))
  have B5 := Lib.hid (B4.out.setCell (p := ⟨R, 16 + k, none⟩) hBR (.int .i64 ((n : Int) + 1)))
  rw [refCells_setN hl HC.out] at G5
  change Hid (Has (World.setCell _ _ (.int .i64 ((n : Int) + 1))) _ _ _) at G5
  have hwr : IntKind.i64.wrap ((n : Int) + 1) = (n : Int) + 1 := IntWalk.i64_in _ (by omega)
  have HR4 : Hid ((Instr.storeAt 3 (.pointer (some ⟨R, 16 + k, none⟩)) (.int .i64 ((n : Int) + 1))).run Try.prog w4 = .ok () (w4.setCell ⟨R, 16 + k, none⟩ (.int .i64 ((n : Int) + 1)))) := Lib.hid (by simp [go_sem, c2, f2])
  clear R4 G4 Z4 K4 B4 HG HC
  repeat still_step
  refine wpStill_nil ?_
  refine wpList_store_run rfl (.tmp 72) (.tmp 69) 3 rfl _ _ rfl rfl _ HR4.out ?_
  clear HR4 c0 c1 c2 f2 hl4
  generalize World.setCell _ _ _ = w5 at G5 R5 Z5 K5 B5 ⊢
  have e0 := R5.out.cell 0
  have e1 := R5.out.cell 1
  have e2 := R5.out.cell 2
  have e3 := R5.out.cell 3
  simp at e0 e1 e2 e3
  have a0 := Z5.out.cell 0
  have a1 := Z5.out.cell 1
  have a2 := Z5.out.cell 2
  have a3 := Z5.out.cell 3
  simp at a0 a1 a2 a3
  have b0 := Z5.out.frozen 0
  have b1 := Z5.out.frozen 1
  have b2 := Z5.out.frozen 2
  have b3 := Z5.out.frozen 3
  have hlz := Z5.out.lt
  have hle := R5.out.lt
  go_wp2
  have hR4 := (((Z5.out.set 0 (.int .i64 2)).set 1 (.int .i64 x)).set 2 (.string ⟨#[]⟩)).set 3 (.int .u64 (m : Int))
  have hG4 := set4_has (x0 := .int .i64 2) (x1 := .int .i64 x) (x2 := .string ⟨#[]⟩) (x3 := .int .u64 (m : Int)) G5.out nz
  have hK4 := set4_keeps (x0 := .int .i64 2) (x1 := .int .i64 x) (x2 := .string ⟨#[]⟩) (x3 := .int .u64 (m : Int)) K5.out Z5.out (.inr (Nat.le_refl _))
  have hB4 := set4_below (x0 := .int .i64 2) (x1 := .int .i64 x) (x2 := .string ⟨#[]⟩) (x3 := .int .u64 (m : Int)) B5.out hBw
  generalize World.setCell _ ⟨_, 3, none⟩ _ = W4 at hR4 hG4 hK4 hB4 ⊢
  have u0 := hR4.cell 0
  have u1 := hR4.cell 1
  have u2 := hR4.cell 2
  have u3 := hR4.cell 3
  simp at u0 u1 u2 u3
  have hl4 := hR4.lt
  exact bodyPost_ret (v := .tuple #[valA 2 x m ⟨#[]⟩, .int .i64 0]) (by simp [results, Try.results10, go_sem, valA, u0, u1, u2, u3]) rfl ⟨by rw [← HXE.out], hG4, hK4, hB4⟩
def RReadIs (w : World) (B R : Nat) (l : List Ch) (ev : List Ev) (k : Nat) (r : (Int × Int × Int × Int) × Ch) (e : Ending) (w' : World) : Prop :=
  e = .returned (.tuple #[valA r.1.1 r.1.2.1 r.1.2.2.1 ⟨#[]⟩, .int .i64 r.1.2.2.2]) ∧ IsR w' B R (l.set k r.2) ev ∧ KeepsT [37] w w' ∧ Below B w w'
theorem refRead_any (B R : Nat) (l : List Ch) (ev : List Ev) (pc k : Nat) (hpc : pc < M64) (hk : k < 8) (c : Ch) (hc : l[k]? = some c) (w : World) (hBw : B ≤ w.heap.size) (h : IsR w B R l ev) (ho : IntsAt w .i64 c.v c.xs) :
    Calls Try.prog 10 #[.pointer (some ⟨R, 0, none⟩), .int .u64 (pc : Int), .int .i64 (k : Int)] w (RReadIs w B R l ev k (readC c pc)) := by
  have h' := h
  obtain ⟨sv, hG, hO, hB, hl, hok⟩ := h
  obtain ⟨hm, hn, hx⟩ := hok c (List.mem_of_getElem? hc)
  have stay : ∀ kd n lab er, Calls Try.prog 10 #[.pointer (some ⟨R, 0, none⟩), .int .u64 (pc : Int), .int .i64 (k : Int)] w (RReadOut w kd n lab er) →
      Calls Try.prog 10 #[.pointer (some ⟨R, 0, none⟩), .int .u64 (pc : Int), .int .i64 (k : Int)] w (RReadIs w B R l ev k ((kd, n, lab, er), c)) := by
    intro kd n lab er hh
    refine hh.mono fun e w' hw => ⟨hw.1, ?_, KeepsT.below hw.2 _, hw.2.mono hBw⟩
    rw [set_same hc]
    exact h'.below hw.2
  unfold readC
  cases hfl : flowsB pc c.m with
  | false => exact stay 0 0 0 40 (refRead_no R l hl sv pc k hpc c hc hk hm hfl w hG)
  | true =>
    rw [if_neg (by simp)]
    by_cases hne : c.n = c.xs.length
    · rw [if_pos hne]
      obtain ⟨av, cp, hv⟩ := ints_shape ho
      exact stay 0 0 c.m 0 (refRead_end R l hl sv pc k hpc c hc hk hm hfl av cp hv hne w hG)
    · rw [if_neg hne]
      refine (refRead_num B R hB l hl sv pc k hpc c hc hk hm hfl hx (by omega) w hBw hG ho).mono fun e w' hw => ⟨hw.1, ⟨sv, hw.2.1, own_keepsT hO hw.2.2.1 (by decide), hB, by simpa using hl, fun d hd => ?_⟩, hw.2.2.1, hw.2.2.2⟩
      rcases List.mem_or_eq_of_mem_set hd with hd | rfl
      · exact hok d hd
      · exact ⟨hm, by show c.n + 1 ≤ c.xs.length; omega, hx⟩
end WorldD
end Go.Proofs.Yteohgacblilfmaa
