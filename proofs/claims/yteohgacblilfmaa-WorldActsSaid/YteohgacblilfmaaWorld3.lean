/- Reading a channel. -/
import Derived.Test.YteohgacblilfmaaWorld2
import Derived.IntWalk
namespace Go.Proofs.Yteohgacblilfmaa
open Go.RowKit ObjM Shell
namespace WorldD
open LabelM LabelD TraceD

theorem IsW.cells {w : World} {G : Nat} {l : List Ch} {sv : Value} (hG : Has w G 60 (rowC l ++ [sv])) {k : Nat} {c : Ch} (hk : l[k]? = some c) :
    w.cell? ⟨G, k * 3, none⟩ = some (.int .u64 (c.m : Int)) ∧ w.cell? ⟨G, k * 3 + 1, none⟩ = some c.v ∧ w.cell? ⟨G, k * 3 + 2, none⟩ = some (.int .i64 (c.n : Int)) := by
  have hlt : k < l.length := (List.getElem?_eq_some_iff.1 hk).1
  have go : ∀ j, j < 3 → w.cell? ⟨G, k * 3 + j, none⟩ = c.cells[j]? := by
    intro j hj
    rw [hG.cell, List.getElem?_append_left (by rw [rowC_len]; omega)]
    exact rowC_at l k c hk j hj
  exact ⟨by simpa [Ch.cells] using go 0 (by omega), by simpa [Ch.cells] using go 1 (by omega), by simpa [Ch.cells] using go 2 (by omega)⟩
theorem set4_below {B b : Nat} {w w' : World} {x0 x1 x2 x3 : Value} (h : Below B w w') (hb : B ≤ b) : Below B w ((((w'.setCell ⟨b, 0, none⟩ x0).setCell ⟨b, 1, none⟩ x1).setCell ⟨b, 2, none⟩ x2).setCell ⟨b, 3, none⟩ x3) :=
  (((h.setCell (p := ⟨b, 0, none⟩) hb _).setCell (p := ⟨b, 1, none⟩) hb _).setCell (p := ⟨b, 2, none⟩) hb _).setCell (p := ⟨b, 3, none⟩) hb _
theorem set4_keeps {ts : List TypeId} {b : Nat} {w w' : World} {t : TypeId} {cs : List Value} {x0 x1 x2 x3 : Value} (h : KeepsT ts w w') (hb : Has w' b t cs) (ht : t ∈ ts ∨ w.heap.size ≤ b) : KeepsT ts w ((((w'.setCell ⟨b, 0, none⟩ x0).setCell ⟨b, 1, none⟩ x1).setCell ⟨b, 2, none⟩ x2).setCell ⟨b, 3, none⟩ x3) :=
  (((h.set hb ht 0 _).set (hb.set 0 _) ht 1 _).set ((hb.set 0 _).set 1 _) ht 2 _).set (((hb.set 0 _).set 1 _).set 2 _) ht 3 _
theorem set4_cell {b c j : Nat} {w : World} {x0 x1 x2 x3 : Value} (h : b ≠ c) : ((((w.setCell ⟨b, 0, none⟩ x0).setCell ⟨b, 1, none⟩ x1).setCell ⟨b, 2, none⟩ x2).setCell ⟨b, 3, none⟩ x3).cell? ⟨c, j, none⟩ = w.cell? ⟨c, j, none⟩ :=
  (cell_ne h).trans ((cell_ne h).trans ((cell_ne h).trans (cell_ne h)))
theorem set4_has {b G : Nat} {w : World} {t : TypeId} {cs : List Value} {x0 x1 x2 x3 : Value} (h : Has w G t cs) (hb : b ≠ G) : Has ((((w.setCell ⟨b, 0, none⟩ x0).setCell ⟨b, 1, none⟩ x1).setCell ⟨b, 2, none⟩ x2).setCell ⟨b, 3, none⟩ x3) G t cs :=
  (((h.keeps (Keeps.set _ b 0 x0) (by simp; omega)).keeps (Keeps.set _ b 1 x1) (by simp; omega)).keeps (Keeps.set _ b 2 x2) (by simp; omega)).keeps (Keeps.set _ b 3 x3) (by simp; omega)
def valA (kd n lab : Int) (s : ByteArray) : Value := .agg #[.int .i64 kd, .int .i64 n, .string s, .int .u64 lab]
def ReadOut (w : World) (kd n lab err : Int) (e : Ending) (w' : World) : Prop :=
  e = .returned (.tuple #[valA kd n lab ⟨#[]⟩, .int .i64 err]) ∧ Below w.heap.size w w'

set_option maxRecDepth 100000 in
set_option maxHeartbeats 1000000 in
theorem read_nil (pc : Int) (k : Int) (w : World) : Calls Try.prog 9 #[.pointer none, .int .u64 pc, .int .i64 k] w (ReadOut w 0 0 0 1) := by
  have H := fun W => Lib.hid (has_nil k W)
  go_enter Try.func9, Try.ntmps9
  go_wp2_with fail
  with_reducible refine ((H _).out).mono ?_
  rintro e w1 ⟨rfl, hw⟩
  subst hw
  go_wp2
  exact bodyPost_ret (v := .tuple #[valA 0 0 0 ⟨#[]⟩, .int .i64 1]) (by simp [results, Try.results9, go_sem, valA]) rfl ⟨rfl, (Below.refl _ _).alloc (Nat.le_refl _) _⟩
set_option maxRecDepth 100000 in
set_option maxHeartbeats 1000000 in
theorem read_out (p : Addr) (pc : Int) (k : Int) (hk : k < 0 ∨ 8 ≤ k) (w : World) : Calls Try.prog 9 #[.pointer (some p), .int .u64 pc, .int .i64 k] w (ReadOut w 0 0 0 1) := by
  have H := fun W => Lib.hid (has_out p k hk W)
  clear hk
  go_enter Try.func9, Try.ntmps9
  go_wp2_with fail
  with_reducible refine ((H _).out).mono ?_
  rintro e w1 ⟨rfl, hw⟩
  subst hw
  go_wp2
  exact bodyPost_ret (v := .tuple #[valA 0 0 0 ⟨#[]⟩, .int .i64 1]) (by simp [results, Try.results9, go_sem, valA]) rfl ⟨rfl, (Below.refl _ _).alloc (Nat.le_refl _) _⟩
set_option maxRecDepth 100000 in
set_option maxHeartbeats 1000000 in
theorem read_no (G : Nat) (l : List Ch) (sv : Value) (pc k : Nat) (hpc : pc < M64) (c : Ch) (hc : l[k]? = some c) (hk : k < 8) (hm : c.m < M64) (hfl : flowsB pc c.m = false) (w : World) (hG : Has w G 60 (rowC l ++ [sv])) :
    Calls Try.prog 9 #[.pointer (some ⟨G, 0, none⟩), .int .u64 (pc : Int), .int .i64 (k : Int)] w (ReadOut w 0 0 0 40) := by
  obtain ⟨c0, c1, c2⟩ := IsW.cells hG hc
  have hlt := hG.lt
  have hk8i : (k : Int) < 8 := by omega
  have H := fun W => Lib.hid (has_in ⟨G, 0, none⟩ k (by omega) hk8i W)
  have HF := fun W => Lib.hid (flows_any pc c.m hpc hm W)
  rw [hfl] at HF
  obtain ⟨m, v, xs, n⟩ := c
  simp only at c0 c1 c2 HF
  clear hG hc hm hfl hpc
  go_enter Try.func9, Try.ntmps9
  go_wp2_with fail
  with_reducible refine ((H _).out).mono ?_
  rintro e w1 ⟨rfl, hw⟩
  subst hw
  go_wp2_with fail
  with_reducible refine ((HF _).out).mono ?_
  rintro e w1 ⟨rfl, hw⟩
  subst hw
  go_wp2
  exact bodyPost_ret (v := .tuple #[valA 0 0 0 ⟨#[]⟩, .int .i64 40]) (by simp [results, Try.results9, go_sem, valA]) rfl ⟨rfl, (Below.refl _ _).alloc (Nat.le_refl _) _⟩
set_option maxRecDepth 100000 in
set_option maxHeartbeats 1000000 in
theorem read_end (G : Nat) (l : List Ch) (sv : Value) (pc k : Nat) (hpc : pc < M64) (c : Ch) (hc : l[k]? = some c) (hk : k < 8) (hm : c.m < M64) (hfl : flowsB pc c.m = true) (av : Option Addr) (cp : Nat) (hv : c.v = .slice av c.xs.length cp) (hn : c.n = c.xs.length) (w : World) (hG : Has w G 60 (rowC l ++ [sv])) :
    Calls Try.prog 9 #[.pointer (some ⟨G, 0, none⟩), .int .u64 (pc : Int), .int .i64 (k : Int)] w (ReadOut w 0 0 c.m 0) := by
  obtain ⟨c0, c1, c2⟩ := IsW.cells hG hc
  have hlt := hG.lt
  have hk8i : (k : Int) < 8 := by omega
  have H := fun W => Lib.hid (has_in ⟨G, 0, none⟩ k (by omega) hk8i W)
  have HF := fun W => Lib.hid (flows_any pc c.m hpc hm W)
  rw [hfl] at HF
  obtain ⟨m, v, xs, n⟩ := c
  simp only at c0 c1 c2 HF hv hn
  subst hv hn
  clear hG hc hm hfl hpc
  go_enter Try.func9, Try.ntmps9
  go_wp2_with fail
  with_reducible refine ((H _).out).mono ?_
  rintro e w1 ⟨rfl, hw⟩
  subst hw
  go_wp2_with fail
  with_reducible refine ((HF _).out).mono ?_
  rintro e w1 ⟨rfl, hw⟩
  subst hw
  go_wp2
  go_quiet (fail)
  go_wp2
  exact bodyPost_ret (v := .tuple #[valA 0 0 m ⟨#[]⟩, .int .i64 0]) (by simp [results, Try.results9, go_sem, valA]) rfl ⟨rfl, set4_below (below_drewN ((Below.refl _ w).alloc (Nat.le_refl _) _) nq) (Nat.le_refl _)⟩
/-- What is read: a number. -/
def ReadDid (w : World) (B G : Nat) (l : List Ch) (sv : Value) (k : Nat) (c : Ch) (e : Ending) (w' : World) : Prop :=
  e = .returned (.tuple #[valA 2 (c.xs.getD c.n 0) c.m ⟨#[]⟩, .int .i64 0]) ∧ Has w' G 60 (rowC (l.set k { c with n := c.n + 1 }) ++ [sv]) ∧ KeepsT [60] w w' ∧ Below B w w'
set_option maxRecDepth 100000 in
set_option maxHeartbeats 2000000 in
theorem read_num (B G : Nat) (hBG : B ≤ G) (l : List Ch) (hl8 : l.length = 8) (sv : Value) (pc k : Nat) (hpc : pc < M64) (c : Ch) (hc : l[k]? = some c) (hk : k < 8) (hm : c.m < M64) (hfl : flowsB pc c.m = true) (hxl : c.xs.length ≤ 17592186044416) (hn : c.n < c.xs.length) (w : World) (hBw : B ≤ w.heap.size) (hG : Has w G 60 (rowC l ++ [sv]))
    (ho : w.ownsRow B 2 1 c.v c.xs.length (rowI c.xs)) :
    Calls Try.prog 9 #[.pointer (some ⟨G, 0, none⟩), .int .u64 (pc : Int), .int .i64 (k : Int)] w (ReadDid w B G l sv k c) := by
  obtain ⟨c0, c1, c2⟩ := IsW.cells hG hc
  have hlt := hG.lt
  have f2 := hG.frozen (k * 3 + 2)
  have hk8i : (k : Int) < 8 := by omega
  have H := fun W => Lib.hid (has_in ⟨G, 0, none⟩ k (by omega) hk8i W)
  have HF := fun W => Lib.hid (flows_any pc c.m hpc hm W)
  rw [hfl] at HF
  have hgc : ∃ g cap, c.v = .slice (some ⟨g, 0, none⟩) c.xs.length cap ∧ g ≠ G ∧ w.cell? ⟨g, c.n, none⟩ = some (.int .i64 (c.xs.getD c.n 0)) ∧ g < w.heap.size := by
    rcases own_shape ho with ⟨_, h, _⟩ | ⟨g, cap, cs, hv, _, hh, _⟩
    · omega
    · rw [hv] at ho
      refine ⟨g, cap, hv, hh.ne hG (by decide), ?_, hh.lt⟩
      rw [own_cell ho c.n (by simp [rowI]; exact hn)]
      simp [rowI, List.getD_eq_getElem?_getD, List.getElem?_eq_getElem hn]
  obtain ⟨g, cap, hv, hgG, hx, hgl⟩ := hgc
  obtain ⟨m, v, xs, n⟩ := c
  simp only at c0 c1 c2 HF hv hn hx hxl
  subst hv
  have hGs : Hid (Has (w.setCell ⟨G, k * 3 + 2, none⟩ (.int .i64 ((n + 1 : Nat) : Int))) G 60 (rowC (l.set k ⟨m, .slice (some ⟨g, 0, none⟩) xs.length cap, xs, n + 1⟩) ++ [sv])) := Lib.hid (by
    have h := hG.set (k * 3 + 2) (.int .i64 ((n + 1 : Nat) : Int))
    rw [List.set_append_left _ _ (by rw [rowC_len]; omega), rowC_setN l k _ hc] at h
    exact h)
  have HG := Lib.hid hG
  have HC := Lib.hid hc
  obtain ⟨x, hxe⟩ : ∃ x, xs.getD n 0 = x := ⟨_, rfl⟩
  have HXE := Lib.hid hxe
  rw [hxe] at hx
  have hne : ((n : Int) == (xs.length : Int)) = false := by simp; omega
  clear hG hc hm hfl hpc ho hxe
  go_enter Try.func9, Try.ntmps9
  go_wp2_with fail
  with_reducible refine ((H _).out).mono ?_
  rintro e w1 ⟨rfl, hw⟩
  subst hw
  go_wp2_with fail
  with_reducible refine ((HF _).out).mono ?_
  rintro e w1 ⟨rfl, hw⟩
  subst hw
  go_wp2
  go_quiet (fail)
  go_wp2
  have hr0 := ((Has.new w 39 [.int .i64 0, .int .i64 0, .string ⟨#[]⟩, .int .u64 0]).keepsT ((KeepsT.refl [] _).drewN nq) (by simp)).keeps (Keeps.set _ G (k * 3 + 2) (.int .i64 ((n : Int) + 1))) (by simp; omega)
  have hgA := (HG.out.keepsT ((KeepsT.refl [] w).alloc (.cells #[.int .i64 0, .int .i64 0, .string ⟨#[]⟩, .int .u64 0] 39)) (by simp)).keepsT ((KeepsT.refl [] _).drewN nq) (by simp)
  have hg0 := hgA.set (k * 3 + 2) (.int .i64 ((n + 1 : Nat) : Int))
  rw [List.set_append_left _ _ (by rw [rowC_len]; omega), rowC_setN l k _ HC.out] at hg0
  have hkA : KeepsT [60] w ((w.alloc (.cells #[.int .i64 0, .int .i64 0, .string ⟨#[]⟩, .int .u64 0] 39)).drewN nq) := ((KeepsT.refl _ w).alloc _).drewN nq
  have hk0 := hkA.set hgA (.inl (by simp)) (k * 3 + 2) (.int .i64 ((n + 1 : Nat) : Int))
  have hb0 : Below B w (((w.alloc (.cells #[.int .i64 0, .int .i64 0, .string ⟨#[]⟩, .int .u64 0] 39)).drewN nq).setCell ⟨G, k * 3 + 2, none⟩ (.int .i64 ((n : Int) + 1))) := (below_drewN ((Below.refl B w).alloc hBw _) nq).setCell (p := ⟨G, k * 3 + 2, none⟩) hBG _
  change Has (World.setCell _ _ (.int .i64 ((n : Int) + 1))) _ _ _ at hg0
  change KeepsT _ _ (World.setCell _ _ (.int .i64 ((n : Int) + 1))) at hk0
  have hc0 := IsW.cells hg0 (k := k) (c := ⟨m, .slice (some ⟨g, 0, none⟩) xs.length cap, xs, n + 1⟩) (by rw [List.getElem?_set_self (by omega)])
  have hx0 : (((w.alloc (.cells #[.int .i64 0, .int .i64 0, .string ⟨#[]⟩, .int .u64 0] 39)).drewN nq).setCell ⟨G, k * 3 + 2, none⟩ (.int .i64 ((n : Int) + 1))).cell? ⟨g, n, none⟩ = some (.int .i64 x) := by
    rw [cell_ne (Ne.symm hgG)]
    show (w.alloc _).cell? _ = _
    rw [World.cell?_alloc_old _ _ _ (by simp; omega)]
    exact hx
  generalize World.setCell _ _ (.int .i64 ((n : Int) + 1)) = W9 at hr0 hg0 hk0 hb0 hc0 hx0 ⊢
  obtain ⟨d0, d1, d2⟩ := hc0
  simp only at d0 d1 d2
  replace d2 : W9.cell? ⟨G, k * 3 + 2, none⟩ = some (.int .i64 ((n : Int) + 1)) := d2
  have r0 := hr0.cell 0
  have r1 := hr0.cell 1
  have r2 := hr0.cell 2
  have r3 := hr0.cell 3
  have q0 := hr0.frozen 0
  have q1 := hr0.frozen 1
  have q2 := hr0.frozen 2
  have q3 := hr0.frozen 3
  simp at r0 r1 r2 r3
  have hlr := hr0.lt
  have hlG := hg0.lt
  have hwr : IntKind.i64.wrap ((n : Int) + 1 - 1) = n := by rw [show (n : Int) + 1 - 1 = n by omega]; exact IntWalk.i64_in _ (by omega)
  have hwr2 : IntKind.i64.wrap (n : Int) = n := IntWalk.i64_in _ (by omega)
  have hni : (n : Int) < (xs.length : Int) := by omega
  have hn0 : (0 : Int) ≤ (n : Int) := by omega
  have hneG : w.heap.size ≠ G := by omega
  have hneg : w.heap.size ≠ g := by omega
  have HR0 := Lib.hid hr0
  have HG0 := Lib.hid hg0
  have HK0 := Lib.hid hk0
  have HB0 := Lib.hid hb0
  clear hr0 hg0 hk0 hb0 hkA hgA c0 c1 c2 f2 hne hx
  clear HG HC H HF hlt hgl hgG hk8i hxl hn
  refine wp_region_still_tail 16 (by kernel_rfl) (by kernel_rfl) ?_
  simp only [List.take_succ_cons, List.take_zero, List.drop_succ_cons, List.drop_zero]
  change wpStill _ _ (World.drew _) (fun a' => wpList _ _ _ _ a' (World.drew _)) _ _
  have hdc : ∀ p, W9.drew.cell? p = W9.cell? p := fun _ => rfl
  rw [← hdc] at d0 d1 d2 hx0 r0 r1 r2 r3
  have hdf : ∀ p, W9.drew.frozen? p = W9.frozen? p := fun _ => rfl
  rw [← hdf] at q0 q1 q2 q3
  have hds : W9.drew.heap.size = W9.heap.size := rfl
  rw [← hds] at hlr hlG
  have HR1 := Lib.hid (HR0.out.drew)
  have HG1 := Lib.hid (HG0.out.drew)
  have HK1 := Lib.hid (HK0.out.drew)
  have HB1 := Lib.hid (HB0.out.drew)
  clear hdc hdf hds HR0 HG0 HK0 HB0
  generalize World.drew _ = w2 at *
  repeat still_step
  refine wpStill_nil ?_
  go_wp2
  have hR4 := (((HR1.out.set 0 (.int .i64 2)).set 1 (.int .i64 x)).set 2 (.string ⟨#[]⟩)).set 3 (.int .u64 (m : Int))
  have hG4 := set4_has (x0 := .int .i64 2) (x1 := .int .i64 x) (x2 := .string ⟨#[]⟩) (x3 := .int .u64 (m : Int)) HG1.out hneG
  have hK4 := set4_keeps (x0 := .int .i64 2) (x1 := .int .i64 x) (x2 := .string ⟨#[]⟩) (x3 := .int .u64 (m : Int)) HK1.out HR1.out (.inr (Nat.le_refl _))
  have hB4 := set4_below (x0 := .int .i64 2) (x1 := .int .i64 x) (x2 := .string ⟨#[]⟩) (x3 := .int .u64 (m : Int)) HB1.out hBw
  generalize World.setCell _ ⟨_, 3, none⟩ _ = W4 at hR4 hG4 hK4 hB4 ⊢
  have u0 := hR4.cell 0
  have u1 := hR4.cell 1
  have u2 := hR4.cell 2
  have u3 := hR4.cell 3
  simp at u0 u1 u2 u3
  have hl4 := hR4.lt
  exact bodyPost_ret (v := .tuple #[valA 2 x m ⟨#[]⟩, .int .i64 0]) (by simp [results, Try.results9, go_sem, valA, u0, u1, u2, u3]) rfl ⟨by rw [← HXE.out], hG4, hK4, hB4⟩

/-- A number is read, or there is none, or it may not be. -/
def readC (c : Ch) (pc : Nat) : (Int × Int × Int × Int) × Ch :=
  if flowsB pc c.m = false then ((0, 0, 0, 40), c) else if c.n = c.xs.length then ((0, 0, c.m, 0), c) else ((2, c.xs.getD c.n 0, c.m, 0), { c with n := c.n + 1 })
def ReadIs (w : World) (B G : Nat) (l : List Ch) (ev : List Ev) (k : Nat) (r : (Int × Int × Int × Int) × Ch) (e : Ending) (w' : World) : Prop :=
  e = .returned (.tuple #[valA r.1.1 r.1.2.1 r.1.2.2.1 ⟨#[]⟩, .int .i64 r.1.2.2.2]) ∧ IsW w' B G (l.set k r.2) ev ∧ KeepsT [60] w w' ∧ Below B w w'
theorem set_same {l : List Ch} {k : Nat} {c : Ch} (h : l[k]? = some c) : l.set k c = l := by
  obtain ⟨hlt, rfl⟩ := List.getElem?_eq_some_iff.1 h
  exact List.set_getElem_self hlt
theorem read_any (B G : Nat) (l : List Ch) (ev : List Ev) (pc k : Nat) (hpc : pc < M64) (hk : k < 8) (c : Ch) (hc : l[k]? = some c) (w : World) (hBw : B ≤ w.heap.size) (h : IsW w B G l ev) :
    Calls Try.prog 9 #[.pointer (some ⟨G, 0, none⟩), .int .u64 (pc : Int), .int .i64 (k : Int)] w (ReadIs w B G l ev k (readC c pc)) := by
  have h' := h
  obtain ⟨sv, hG, hO, hB, hl, hok⟩ := h
  obtain ⟨hm, hn, hx, ho⟩ := hok c (List.mem_of_getElem? hc)
  have stay : ∀ kd n lab er, Calls Try.prog 9 #[.pointer (some ⟨G, 0, none⟩), .int .u64 (pc : Int), .int .i64 (k : Int)] w (ReadOut w kd n lab er) →
      Calls Try.prog 9 #[.pointer (some ⟨G, 0, none⟩), .int .u64 (pc : Int), .int .i64 (k : Int)] w (ReadIs w B G l ev k ((kd, n, lab, er), c)) := by
    intro kd n lab er hh
    refine hh.mono fun e w' hw => ⟨hw.1, ?_, KeepsT.below hw.2 _, hw.2.mono hBw⟩
    rw [set_same hc]
    exact h'.below hw.2
  unfold readC
  cases hfl : flowsB pc c.m with
  | false => exact stay 0 0 0 40 (read_no G l sv pc k hpc c hc hk hm hfl w hG)
  | true =>
    rw [if_neg (by simp)]
    by_cases hne : c.n = c.xs.length
    · rw [if_pos hne]
      obtain ⟨av, cp, hv⟩ := own_slice ho
      exact stay 0 0 c.m 0 (read_end G l sv pc k hpc c hc hk hm hfl av cp hv hne w hG)
    · rw [if_neg hne]
      refine (read_num B G hB l hl sv pc k hpc c hc hk hm hfl hx (by omega) w hBw hG ho).mono fun e w' hw => ⟨hw.1, ⟨sv, hw.2.1, own_keepsT hO hw.2.2.1 (by decide), hB, by simpa using hl, fun d hd => ?_⟩, hw.2.2.1, hw.2.2.2⟩
      rcases List.mem_or_eq_of_mem_set hd with hd | rfl
      · exact (hok d hd).keeps hw.2.2.1 (by decide)
      · exact ⟨hm, by show c.n + 1 ≤ c.xs.length; omega, hx, own_keepsT ho hw.2.2.1 (by decide)⟩
end WorldD
end Go.Proofs.Yteohgacblilfmaa
