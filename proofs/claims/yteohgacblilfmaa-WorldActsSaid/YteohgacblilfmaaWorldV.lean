/- Writing, with the row of events told: two worlds side by side. -/
import Derived.Test.YteohgacblilfmaaWorldRef2
import Derived.Maps.AppendAt
namespace Go.Proofs.Yteohgacblilfmaa
open Go.RowKit ObjM Shell Go.ChangeShapes Go.WideShapes
namespace WorldD
open LabelM LabelD TraceD

def IsWv (w : World) (B G : Nat) (l : List Ch) (ev : List Ev) (sv : Value) : Prop :=
  Has w G 60 (rowC l ++ [sv]) ∧ w.ownsRow B 65 4 sv ev.length (rowE ev) ∧ B ≤ G ∧ l.length = 8 ∧ ∀ c ∈ l, ChOk w B c
def IsRv (w : World) (B R : Nat) (l : List Ch) (ev : List Ev) (sv : Value) : Prop :=
  Has w R 37 (refCells l sv) ∧ w.ownsRow B 65 4 sv ev.length (rowE ev) ∧ B ≤ R ∧ l.length = 8 ∧ ∀ c ∈ l, c.m < M64 ∧ c.n ≤ c.xs.length ∧ c.xs.length ≤ 17592186044416
theorem IsWv.isW {w : World} {B G : Nat} {l : List Ch} {ev : List Ev} {sv : Value} (h : IsWv w B G l ev sv) : IsW w B G l ev := ⟨sv, h⟩
theorem IsRv.isR {w : World} {B G : Nat} {l : List Ch} {ev : List Ev} {sv : Value} (h : IsRv w B G l ev sv) : IsR w B G l ev := ⟨sv, h⟩
theorem IsWv.keeps {w w' : World} {B G : Nat} {l : List Ch} {ev : List Ev} {sv : Value} {ts : List TypeId} (h : IsWv w B G l ev sv) (k : KeepsT ts w w') (h1 : 60 ∉ ts) (h2 : 65 ∉ ts) (h3 : 2 ∉ ts) : IsWv w' B G l ev sv :=
  ⟨h.1.keepsT k h1, own_keepsT h.2.1 k h2, h.2.2.1, h.2.2.2.1, fun c hm => (h.2.2.2.2 c hm).keeps k h3⟩
theorem IsWv.below {w w' : World} {B G : Nat} {l : List Ch} {ev : List Ev} {sv : Value} (h : IsWv w B G l ev sv) (hb : Below w.heap.size w w') : IsWv w' B G l ev sv := h.keeps (KeepsT.below hb []) (by simp) (by simp) (by simp)
theorem IsRv.keeps {w w' : World} {B G : Nat} {l : List Ch} {ev : List Ev} {sv : Value} {ts : List TypeId} (h : IsRv w B G l ev sv) (k : KeepsT ts w w') (h1 : 37 ∉ ts) (h2 : 65 ∉ ts) : IsRv w' B G l ev sv :=
  ⟨h.1.keepsT k h1, own_keepsT h.2.1 k h2, h.2.2.1, h.2.2.2.1, h.2.2.2.2⟩
theorem IsRv.below {w w' : World} {B G : Nat} {l : List Ch} {ev : List Ev} {sv : Value} (h : IsRv w B G l ev sv) (hb : Below w.heap.size w w') : IsRv w' B G l ev sv := h.keeps (KeepsT.below hb []) (by simp) (by simp)
/-- Two rows lie apart. -/
def Dj (v u : Value) : Prop := ∀ g h, v.ownBlock = some g → u.ownBlock = some h → g ≠ h
theorem Dj.symm {v u : Value} (h : Dj v u) : Dj u v := fun g k hg hk e => h k g hk hg e.symm
theorem Dj.grow {w : World} {B : Nat} {e : TypeId} {size n : Nat} {xs : List Value} {v v' u : Value} (h : Dj v u) (hu : w.ownsRow B e size u n xs) (hv : ∀ g, v'.ownBlock = some g → v.ownBlock = some g ∨ w.heap.size ≤ g) : Dj v' u := by
  intro g k hg hk
  rcases hv g hg with h1 | h1
  · exact h g k h1 hk
  · have := (own_lt hu k hk).2
    omega
theorem ints_apart {w w' : World} {B G : Nat} {v sv : Value} {n n2 : Nat} {xs ys : List Value} (h : w.ownsRow B 2 1 v n xs) (k : Keeps (G :: sv.ownBlock.toList) w w') {t : TypeId} {cs : List Value} (hG : Has w G t cs) (ht : t ≠ 2) (hs : w.ownsRow B 65 4 sv n2 ys) : w'.ownsRow B 2 1 v n xs := by
  refine own_keeps h k fun g hg hm => ?_
  rcases List.mem_cons.1 hm with e | e
  · exact own_ne h hG ht g hg e
  · have hs' : sv.ownBlock = some g := by
      cases h9 : sv.ownBlock with
      | none => rw [h9] at e; simp at e
      | some x => rw [h9] at e; simp at e; rw [e]
    obtain ⟨cs', hc⟩ := own_row h g hg
    obtain ⟨ds', hd⟩ := own_row hs g hs'
    exact hc.ne hd (by decide) rfl
theorem frameR {w w' : World} {B G R : Nat} {l l' : List Ch} {ev ev2 : List Ev} {sv su : Value} (k : Keeps (G :: sv.ownBlock.toList) w w') (hW : IsWv w B G l ev sv) (hR : IsRv w B R l' ev2 su) (hd : Dj sv su) : IsRv w' B R l' ev2 su := by
  obtain ⟨h1, h2, h3, h4, h5⟩ := hR
  refine ⟨h1.keeps k fun hm => ?_, own_keeps h2 k fun g hg hm => ?_, h3, h4, h5⟩
  · rcases List.mem_cons.1 hm with e | e
    · exact h1.ne hW.1 (by decide) e
    · have hs' : sv.ownBlock = some R := by
        cases h9 : sv.ownBlock with
        | none => rw [h9] at e; simp at e
        | some x => rw [h9] at e; simp at e; rw [e]
      exact own_ne hW.2.1 h1 (by decide) R hs' rfl
  · rcases List.mem_cons.1 hm with e | e
    · exact own_ne h2 hW.1 (by decide) g hg e
    · have hs' : sv.ownBlock = some g := by
        cases h9 : sv.ownBlock with
        | none => rw [h9] at e; simp at e
        | some x => rw [h9] at e; simp at e; rw [e]
      exact hd g g hs' hg rfl
theorem frameW {w w' : World} {B G R : Nat} {l l' : List Ch} {ev ev2 : List Ev} {sv su : Value} (k : Keeps (R :: su.ownBlock.toList) w w') (hW : IsWv w B G l ev sv) (hR : IsRv w B R l' ev2 su) (hd : Dj sv su) : IsWv w' B G l ev sv := by
  obtain ⟨h1, h2, h3, h4, h5⟩ := hW
  refine ⟨h1.keeps k fun hm => ?_, own_keeps h2 k fun g hg hm => ?_, h3, h4, fun c hc => ⟨(h5 c hc).1, (h5 c hc).2.1, (h5 c hc).2.2.1, ints_apart (h5 c hc).2.2.2 k hR.1 (by decide) hR.2.1⟩⟩
  · rcases List.mem_cons.1 hm with e | e
    · exact h1.ne hR.1 (by decide) e
    · have hs' : su.ownBlock = some G := by
        cases h9 : su.ownBlock with
        | none => rw [h9] at e; simp at e
        | some x => rw [h9] at e; simp at e; rw [e]
      exact own_ne hR.2.1 h1 (by decide) G hs' rfl
  · rcases List.mem_cons.1 hm with e | e
    · exact own_ne h2 hR.1 (by decide) g hg e
    · have hs' : su.ownBlock = some g := by
        cases h9 : su.ownBlock with
        | none => rw [h9] at e; simp at e
        | some x => rw [h9] at e; simp at e; rw [e]
      exact hd g g hg hs' rfl

theorem Keeps.ofT {w w' : World} (h : KeepsT [] w w') (S : List Nat) : Keeps S w w' := ⟨h.os, h.tape, h.output, h.size, fun k hk _ => h.block k hk (fun _ _ _ _ => by simp)⟩
def WriteDidV (w : World) (B G : Nat) (l : List Ch) (ev : List Ev) (sv : Value) (e : Ending) (w' : World) : Prop :=
  e = .returned (.int .i64 0) ∧ ∃ sv', IsWv w' B G l ev sv' ∧ (sv.ownBlock = sv'.ownBlock ∨ ∀ g, sv'.ownBlock = some g → w.heap.size ≤ g) ∧ Keeps (G :: sv.ownBlock.toList) w w' ∧ KeepsT [60, 65] w w' ∧ Below B w w'
def RWriteDidV (w : World) (B G : Nat) (l : List Ch) (ev : List Ev) (sv : Value) (e : Ending) (w' : World) : Prop :=
  e = .returned (.int .i64 0) ∧ ∃ sv', IsRv w' B G l ev sv' ∧ (sv.ownBlock = sv'.ownBlock ∨ ∀ g, sv'.ownBlock = some g → w.heap.size ≤ g) ∧ Keeps (G :: sv.ownBlock.toList) w w' ∧ KeepsT [37, 65] w w' ∧ Below B w w'
theorem grow_or {w : World} {sv : Value} {g n c : Nat} (h : sv.ownBlock = some g ∨ w.heap.size ≤ g) : sv.ownBlock = (Value.slice (some ⟨g, 0, none⟩) n c).ownBlock ∨ ∀ x, (Value.slice (some ⟨g, 0, none⟩) n c).ownBlock = some x → w.heap.size ≤ x := by
  rcases h with h | h
  · exact .inl (by rw [h]; rfl)
  · refine .inr fun x hx => ?_
    have : g = x := by simpa [Value.ownBlock] using hx
    omega
/-- The append of an event. -/
theorem app_Wv (B G : Nat) (l : List Ch) (ev : List Ev) (x : Ev) (sv : Value) (hn : ev.length ≤ 2600000000000) (w : World) (hBw : B ≤ w.heap.size) (hG : Has w G 60 (rowC l ++ [sv])) (hO : w.ownsRow B 65 4 sv ev.length (rowE ev)) (hBG : B ≤ G) (hl : l.length = 8) (hc : ∀ c ∈ l, ChOk w B c) :
    ∃ g' cap' w1, (Builtin.append_ #[35, 35] 35 #[sv, .slice (some ⟨w.heap.size, 0, none⟩) 1 1]).run Try.prog ((w.alloc (.cells x.cells.toArray 65)).drew) = .ok (.slice (some ⟨g', 0, none⟩) (ev.length + 1) cap') w1 ∧
      w1.cell? ⟨G, 24, none⟩ = some sv ∧ w1.frozen? ⟨G, 24, none⟩ = false ∧ G < w1.heap.size ∧
      IsWv (w1.setCell ⟨G, 24, none⟩ (.slice (some ⟨g', 0, none⟩) (ev.length + 1) cap')) B G l (ev ++ [x]) (.slice (some ⟨g', 0, none⟩) (ev.length + 1) cap') ∧
      (sv.ownBlock = some g' ∨ w.heap.size ≤ g') ∧ Keeps (G :: sv.ownBlock.toList) w (w1.setCell ⟨G, 24, none⟩ (.slice (some ⟨g', 0, none⟩) (ev.length + 1) cap')) ∧
      KeepsT [60, 65] w (w1.setCell ⟨G, 24, none⟩ (.slice (some ⟨g', 0, none⟩) (ev.length + 1) cap')) ∧ Below B w (w1.setCell ⟨G, 24, none⟩ (.slice (some ⟨g', 0, none⟩) (ev.length + 1) cap')) := by
  obtain ⟨i0, hi, hz0, hz1, hz2⟩ := info_parts infoEv
  have hown1 : ((w.alloc (.cells x.cells.toArray 65)).drew).ownsRow B 65 4 sv ev.length (rowE ev) := (hO.alloc _).drew
  have hnew := (Has.new w 65 x.cells).drew
  obtain ⟨v', w1, hrun, hown', hgrow, -, hob⟩ := run_append_own_at (P := Try.prog) (w := (w.alloc (.cells x.cells.toArray 65)).drew) B 35 35 65 i0 (.agg #[.int .i64 0, .int .i64 0, .int .i64 0, .string ⟨#[]⟩]) 4 40 Try.underlying35 hi hz0 hz1 hz2 rfl (by decide) sv ev.length (rowE ev) hown1 ⟨w.heap.size, 0, none⟩ 1 1 x.cells rfl (by
    intro k u hu
    rw [addr_add, Nat.zero_add, hnew.cell]
    exact hu) (by simp [Ev.cells, Value.oneCell']) (by unfold maxLen; omega) (by omega) (by simp; omega)
  obtain ⟨g', cap', rfl⟩ := ownsRow_succ hown'
  have hk1 : KeepsT [65] w w1 := (((KeepsT.refl _ w).alloc _).drew).grown hgrow (fun g hg => .inr (by
    obtain ⟨cs, hc⟩ := own_row hown1 g hg
    exact ⟨_, cs, hc, by simp⟩))
  have hb1 : Below B w w1 := (((Below.refl B w).alloc (by omega) _).drew).grown hgrow (by simp; omega) (fun g hg => (own_lt hown1 g hg).1)
  have hG1 : Has w1 G 60 (rowC l ++ [sv]) := hG.keepsT hk1 (by decide)
  have hlen : (rowC l).length = 24 := by rw [rowC_len, hl]
  have hk2 := (hk1.mono (ts := [60, 65]) (by simp)).set hG1 (.inl (by simp)) 24 (.slice (some ⟨g', 0, none⟩) (ev.length + 1) cap')
  have hgb : sv.ownBlock = some g' ∨ w.heap.size ≤ g' := by
    rcases hob with h | h
    · exact .inl (by rw [← h]; rfl)
    · have : g' = (w.alloc (.cells x.cells.toArray 65)).drew.heap.size := by simpa [Value.ownBlock] using h
      exact .inr (by rw [this]; simp)
  have hkk : Keeps (G :: sv.ownBlock.toList) w (w1.setCell ⟨G, 24, none⟩ (.slice (some ⟨g', 0, none⟩) (ev.length + 1) cap')) :=
    (((Keeps.alloc (G :: sv.ownBlock.toList) w _).trans (Keeps.drew (G :: sv.ownBlock.toList) _) (fun x hx => .inl hx)).trans (Keeps.grown hgrow) (fun x hx => .inl (List.mem_cons_of_mem _ hx))).trans (Keeps.set w1 G 24 _) (fun x hx => .inl (by simp at hx; simp [hx]))
  refine ⟨g', cap', w1, hrun, ?_, hG1.frozen 24, hG1.lt, ⟨?_, ?_, hBG, hl, fun c hm => (hc c hm).keeps hk2 (by decide)⟩, hgb, hkk, hk2, hb1.setCell (p := ⟨G, 24, none⟩) hBG _⟩
  · rw [hG1.cell, List.getElem?_append_right (by omega), hlen]
    rfl
  · have h := hG1.set 24 (.slice (some ⟨g', 0, none⟩) (ev.length + 1) cap')
    rw [List.set_append_right _ _ (by omega), hlen] at h
    exact h
  · rw [rowE_snoc, List.length_append]
    exact own_keeps hown' (Keeps.set w1 G 24 _) (fun g hg => by
      have := own_ne hown' hG1 (by decide) g hg
      simpa using this)

set_option maxRecDepth 100000 in
set_option maxHeartbeats 4000000 in
theorem write_okv (B G : Nat) (l : List Ch) (ev : List Ev) (hev : ev.length ≤ 2600000000000) (pc k lab : Nat) (hpc : pc < M64) (hlab : lab < M64) (c : Ch) (hc : l[k]? = some c) (hk : k < 8) (hfl : flowsB (pc ||| lab) c.m = true) (kd n : Int) (s : ByteArray) (w : World) (hBw : B ≤ w.heap.size) (sv0 : Value) (hI : IsWv w B G l ev sv0) :
    Calls Try.prog 11 #[.pointer (some ⟨G, 0, none⟩), .int .u64 (pc : Int), .int .i64 (k : Int), .agg #[.int .i64 kd, .int .i64 n, .string s, .int .u64 (lab : Int)]] w (WriteDidV w B G l (ev ++ [evOf k kd n s]) sv0) := by
  have hI' := hI
  obtain ⟨hG, hO, hBG, hl8, hok⟩ := hI'
  obtain ⟨sv, hsv0⟩ : ∃ x, sv0 = x := ⟨_, rfl⟩
  have HSV0 := Lib.hid hsv0
  rw [hsv0] at hG hO
  clear hsv0
  have hm := (hok c (List.mem_of_getElem? hc)).1
  obtain ⟨c0, c1, c2⟩ := IsW.cells (hG.keepsT ((KeepsT.refl [] w).alloc (.cells #[.int .i64 kd, .int .i64 n, .string s, .int .u64 (lab : Int)] 39)) (by simp)) hc
  have hlt := (hG.keepsT ((KeepsT.refl [] w).alloc (.cells #[.int .i64 kd, .int .i64 n, .string s, .int .u64 (lab : Int)] 39)) (by simp)).lt
  have hb := (Has.new w 39 [.int .i64 kd, .int .i64 n, .string s, .int .u64 (lab : Int)])
  have hk8i : (k : Int) < 8 := by omega
  have hk0i : (0 : Int) ≤ (k : Int) := by omega
  have H := fun W => Lib.hid (has_in ⟨G, 0, none⟩ k (by omega) hk8i W)
  have HJ := fun W => Lib.hid (join2e pc lab hpc hlab W)
  have HF := fun W => Lib.hid (flows_any (pc ||| lab) c.m (or_lt hpc hlab) hm W)
  rw [hfl] at HF
  have HS := Lib.hid (show ∃ av cp, sv = .slice av ev.length cp from own_slice hO)
  have HK1 : Hid (KeepsT [] w (w.alloc (.cells #[.int .i64 kd, .int .i64 n, .string s, .int .u64 (lab : Int)] 39))) := Lib.hid ((KeepsT.refl _ w).alloc _)
  have HB1 : Hid (Below B w (w.alloc (.cells #[.int .i64 kd, .int .i64 n, .string s, .int .u64 (lab : Int)] 39))) := Lib.hid ((Below.refl _ w).alloc hBw _)
  obtain ⟨m, v, xs, nn⟩ := c
  simp only at c0 c1 c2 HF
  have HG := Lib.hid hG
  have HO := Lib.hid hO
  have HOK := Lib.hid hok
  clear hG hO hok hc hm hfl hI
  have hcase : (kd = 1 ∧ evOf k kd n s = ⟨k, 1, n, ⟨#[]⟩⟩) ∨ (kd = 2 ∧ evOf k kd n s = ⟨k, 2, n, ⟨#[]⟩⟩) ∨ (kd = 3 ∧ evOf k kd n s = ⟨k, 3, 0, s⟩) ∨ ((kd == 1) = false ∧ (kd == 2) = false ∧ (kd == 3) = false ∧ evOf k kd n s = ⟨k, kd, 0, ⟨#[]⟩⟩) := by
    by_cases h1 : kd = 1
    · exact .inl ⟨h1, by subst h1; rfl⟩
    · by_cases h2 : kd = 2
      · exact .inr (.inl ⟨h2, by subst h2; rfl⟩)
      · by_cases h3 : kd = 3
        · exact .inr (.inr (.inl ⟨h3, by subst h3; rfl⟩))
        · exact .inr (.inr (.inr ⟨by simpa using h1, by simpa using h2, by simpa using h3, by simp [evOf, h1, h2, h3]⟩))
  rcases hcase with ⟨rfl, he⟩ | ⟨rfl, he⟩ | ⟨rfl, he⟩ | ⟨h1, h2, h3, he⟩
  · rw [he]
    clear he
    go_enter Try.func11, Try.ntmps11
    go_wp2_with fail
    with_reducible refine ((H _).out).mono ?_
    rintro e w1 ⟨rfl, hw⟩
    subst hw
    go_wp2
    change Code.wp _ _ _ _ (World.alloc w _)
    generalize World.alloc w _ = W1 at c0 c1 c2 hlt hb HK1 HB1 ⊢
    have b0 := hb.cell 0
    have b1 := hb.cell 1
    have b2 := hb.cell 2
    have b3 := hb.cell 3
    have hlb := hb.lt
    simp at b0 b1 b2 b3
    clear hb c1 c2
    go_region_held3 (fun W' => W'.cell? ⟨w.heap.size, 3, none⟩ = some (.int .u64 (lab : Int)) ∧ W'.cell? ⟨G, k * 3, none⟩ = some (.int .u64 (m : Int))) (first | assumption | go_keep)
      (first
        | (go_at_call 20
           with_reducible refine ((HJ _).out).mono ?_
           rintro e w5 ⟨rfl, hw⟩
           subst hw)
        | (go_at_call 19
           with_reducible refine ((HF _).out).mono ?_
           rintro e w5 ⟨rfl, hw⟩
           subst hw))
    go_wp2
    have hk5 := Lib.hid (((HK1.out.alloc (.cells #[.int .u64 (pc : Int), .int .u64 (lab : Int)] 23)).alloc (.cells #[.int .i64 (k : Int), .int .i64 1, .int .i64 n, .string ⟨#[]⟩] 65)).drew)
    have hb5 := Lib.hid (((HB1.out.alloc (Nat.le_trans hBw HB1.out.size) (.cells #[.int .u64 (pc : Int), .int .u64 (lab : Int)] 23)).alloc (by have := HB1.out.size; simp; omega) (.cells #[.int .i64 (k : Int), .int .i64 1, .int .i64 n, .string ⟨#[]⟩] 65)).drew)
    have hx5 := (Has.new (W1.alloc (.cells #[.int .u64 (pc : Int), .int .u64 (lab : Int)] 23)) 65 [.int .i64 (k : Int), .int .i64 1, .int .i64 n, .string ⟨#[]⟩]).drew
    simp only [World.size_alloc] at hx5
    generalize World.drew _ = W5 at hk5 hb5 hx5 ⊢
    have e0 := hx5.cell 0
    have e1 := hx5.cell 1
    have e2 := hx5.cell 2
    have e3 := hx5.cell 3
    have hle := hx5.lt
    simp at e0 e1 e2 e3
    have hG5 := HG.out.keepsT hk5.out (by simp)
    have hl5 := hG5.lt
    have hBs := hb5.out.size
    obtain ⟨g', cap', w6, hrun, a0, a1, a2, hI6, hgb, hkk, hk6, hb6⟩ := app_Wv B G l ev ⟨k, 1, n, ⟨#[]⟩⟩ sv hev W5 (Nat.le_trans hBw hBs) hG5 (own_keepsT HO.out hk5.out (by simp)) hBG hl8 (fun c hm => (HOK.out c hm).keeps hk5.out (by simp))
    simp only [Ev.cells] at hrun
    obtain ⟨av, cp, hsv⟩ := HS.out
    subst hsv
    have d24 : W5.cell? ⟨G, 24, none⟩ = some (.slice av ev.length cp) := by
      rw [hG5.cell, List.getElem?_append_right (by rw [rowC_len]; omega), rowC_len, hl8]
      rfl
    have HI6 := Lib.hid hI6
    have HK6 := Lib.hid ((hk5.out.mono (by simp)).trans hk6 (fun _ h => h))
    have HB6 := Lib.hid (hb5.out.trans hb6)
    have HKK := Lib.hid ((Keeps.ofT hk5.out (G :: (Value.slice av ev.length cp).ownBlock.toList)).trans hkk (fun _ h => .inl h))
    have HGB := Lib.hid (hgb.imp id (fun h => Nat.le_trans hk5.out.size h))
    clear hx5 hG5 hI6 hk6 hb6 hk5 hb5 hgb hkk c0 hlt b0 b1 b2 b3 hlb HK1 HB1 HG HO HOK HS hBs
    go_region_law (refine step_append_own rfl (.tmp 49) (.tmp 51) 35 rfl _ _ _ _ rfl rfl hrun ?_)
    all_goals
      clear hrun
      go_wp2
      go_ret
      exact ⟨rfl, _, HI6.out, by rw [HSV0.out]; exact grow_or HGB.out, by rw [HSV0.out]; exact HKK.out, HK6.out, HB6.out⟩
  · rw [he]
    clear he
    go_enter Try.func11, Try.ntmps11
    go_wp2_with fail
    with_reducible refine ((H _).out).mono ?_
    rintro e w1 ⟨rfl, hw⟩
    subst hw
    go_wp2
    change Code.wp _ _ _ _ (World.alloc w _)
    generalize World.alloc w _ = W1 at c0 c1 c2 hlt hb HK1 HB1 ⊢
    have b0 := hb.cell 0
    have b1 := hb.cell 1
    have b2 := hb.cell 2
    have b3 := hb.cell 3
    have hlb := hb.lt
    simp at b0 b1 b2 b3
    clear hb c1 c2
    go_region_held3 (fun W' => W'.cell? ⟨w.heap.size, 3, none⟩ = some (.int .u64 (lab : Int)) ∧ W'.cell? ⟨G, k * 3, none⟩ = some (.int .u64 (m : Int))) (first | assumption | go_keep)
      (first
        | (go_at_call 20
           with_reducible refine ((HJ _).out).mono ?_
           rintro e w5 ⟨rfl, hw⟩
           subst hw)
        | (go_at_call 19
           with_reducible refine ((HF _).out).mono ?_
           rintro e w5 ⟨rfl, hw⟩
           subst hw))
    go_wp2
    have hk5 := Lib.hid (((HK1.out.alloc (.cells #[.int .u64 (pc : Int), .int .u64 (lab : Int)] 23)).alloc (.cells #[.int .i64 (k : Int), .int .i64 2, .int .i64 n, .string ⟨#[]⟩] 65)).drew)
    have hb5 := Lib.hid (((HB1.out.alloc (Nat.le_trans hBw HB1.out.size) (.cells #[.int .u64 (pc : Int), .int .u64 (lab : Int)] 23)).alloc (by have := HB1.out.size; simp; omega) (.cells #[.int .i64 (k : Int), .int .i64 2, .int .i64 n, .string ⟨#[]⟩] 65)).drew)
    have hx5 := (Has.new (W1.alloc (.cells #[.int .u64 (pc : Int), .int .u64 (lab : Int)] 23)) 65 [.int .i64 (k : Int), .int .i64 2, .int .i64 n, .string ⟨#[]⟩]).drew
    simp only [World.size_alloc] at hx5
    generalize World.drew _ = W5 at hk5 hb5 hx5 ⊢
    have e0 := hx5.cell 0
    have e1 := hx5.cell 1
    have e2 := hx5.cell 2
    have e3 := hx5.cell 3
    have hle := hx5.lt
    simp at e0 e1 e2 e3
    have hG5 := HG.out.keepsT hk5.out (by simp)
    have hl5 := hG5.lt
    have hBs := hb5.out.size
    obtain ⟨g', cap', w6, hrun, a0, a1, a2, hI6, hgb, hkk, hk6, hb6⟩ := app_Wv B G l ev ⟨k, 2, n, ⟨#[]⟩⟩ sv hev W5 (Nat.le_trans hBw hBs) hG5 (own_keepsT HO.out hk5.out (by simp)) hBG hl8 (fun c hm => (HOK.out c hm).keeps hk5.out (by simp))
    simp only [Ev.cells] at hrun
    obtain ⟨av, cp, hsv⟩ := HS.out
    subst hsv
    have d24 : W5.cell? ⟨G, 24, none⟩ = some (.slice av ev.length cp) := by
      rw [hG5.cell, List.getElem?_append_right (by rw [rowC_len]; omega), rowC_len, hl8]
      rfl
    have HI6 := Lib.hid hI6
    have HK6 := Lib.hid ((hk5.out.mono (by simp)).trans hk6 (fun _ h => h))
    have HB6 := Lib.hid (hb5.out.trans hb6)
    have HKK := Lib.hid ((Keeps.ofT hk5.out (G :: (Value.slice av ev.length cp).ownBlock.toList)).trans hkk (fun _ h => .inl h))
    have HGB := Lib.hid (hgb.imp id (fun h => Nat.le_trans hk5.out.size h))
    clear hx5 hG5 hI6 hk6 hb6 hk5 hb5 hgb hkk c0 hlt b0 b1 b2 b3 hlb HK1 HB1 HG HO HOK HS hBs
    go_region_law (refine step_append_own rfl (.tmp 49) (.tmp 51) 35 rfl _ _ _ _ rfl rfl hrun ?_)
    all_goals
      clear hrun
      go_wp2
      go_ret
      exact ⟨rfl, _, HI6.out, by rw [HSV0.out]; exact grow_or HGB.out, by rw [HSV0.out]; exact HKK.out, HK6.out, HB6.out⟩
  · rw [he]
    clear he
    go_enter Try.func11, Try.ntmps11
    go_wp2_with fail
    with_reducible refine ((H _).out).mono ?_
    rintro e w1 ⟨rfl, hw⟩
    subst hw
    go_wp2
    change Code.wp _ _ _ _ (World.alloc w _)
    generalize World.alloc w _ = W1 at c0 c1 c2 hlt hb HK1 HB1 ⊢
    have b0 := hb.cell 0
    have b1 := hb.cell 1
    have b2 := hb.cell 2
    have b3 := hb.cell 3
    have hlb := hb.lt
    simp at b0 b1 b2 b3
    clear hb c1 c2
    go_region_held3 (fun W' => W'.cell? ⟨w.heap.size, 3, none⟩ = some (.int .u64 (lab : Int)) ∧ W'.cell? ⟨G, k * 3, none⟩ = some (.int .u64 (m : Int))) (first | assumption | go_keep)
      (first
        | (go_at_call 20
           with_reducible refine ((HJ _).out).mono ?_
           rintro e w5 ⟨rfl, hw⟩
           subst hw)
        | (go_at_call 19
           with_reducible refine ((HF _).out).mono ?_
           rintro e w5 ⟨rfl, hw⟩
           subst hw))
    go_wp2
    have hk5 := Lib.hid (((HK1.out.alloc (.cells #[.int .u64 (pc : Int), .int .u64 (lab : Int)] 23)).alloc (.cells #[.int .i64 (k : Int), .int .i64 3, .int .i64 0, .string s] 65)).drew)
    have hb5 := Lib.hid (((HB1.out.alloc (Nat.le_trans hBw HB1.out.size) (.cells #[.int .u64 (pc : Int), .int .u64 (lab : Int)] 23)).alloc (by have := HB1.out.size; simp; omega) (.cells #[.int .i64 (k : Int), .int .i64 3, .int .i64 0, .string s] 65)).drew)
    have hx5 := (Has.new (W1.alloc (.cells #[.int .u64 (pc : Int), .int .u64 (lab : Int)] 23)) 65 [.int .i64 (k : Int), .int .i64 3, .int .i64 0, .string s]).drew
    simp only [World.size_alloc] at hx5
    generalize World.drew _ = W5 at hk5 hb5 hx5 ⊢
    have e0 := hx5.cell 0
    have e1 := hx5.cell 1
    have e2 := hx5.cell 2
    have e3 := hx5.cell 3
    have hle := hx5.lt
    simp at e0 e1 e2 e3
    have hG5 := HG.out.keepsT hk5.out (by simp)
    have hl5 := hG5.lt
    have hBs := hb5.out.size
    obtain ⟨g', cap', w6, hrun, a0, a1, a2, hI6, hgb, hkk, hk6, hb6⟩ := app_Wv B G l ev ⟨k, 3, 0, s⟩ sv hev W5 (Nat.le_trans hBw hBs) hG5 (own_keepsT HO.out hk5.out (by simp)) hBG hl8 (fun c hm => (HOK.out c hm).keeps hk5.out (by simp))
    simp only [Ev.cells] at hrun
    obtain ⟨av, cp, hsv⟩ := HS.out
    subst hsv
    have d24 : W5.cell? ⟨G, 24, none⟩ = some (.slice av ev.length cp) := by
      rw [hG5.cell, List.getElem?_append_right (by rw [rowC_len]; omega), rowC_len, hl8]
      rfl
    have HI6 := Lib.hid hI6
    have HK6 := Lib.hid ((hk5.out.mono (by simp)).trans hk6 (fun _ h => h))
    have HB6 := Lib.hid (hb5.out.trans hb6)
    have HKK := Lib.hid ((Keeps.ofT hk5.out (G :: (Value.slice av ev.length cp).ownBlock.toList)).trans hkk (fun _ h => .inl h))
    have HGB := Lib.hid (hgb.imp id (fun h => Nat.le_trans hk5.out.size h))
    clear hx5 hG5 hI6 hk6 hb6 hk5 hb5 hgb hkk c0 hlt b0 b1 b2 b3 hlb HK1 HB1 HG HO HOK HS hBs
    go_region_law (refine step_append_own rfl (.tmp 49) (.tmp 51) 35 rfl _ _ _ _ rfl rfl hrun ?_)
    all_goals
      clear hrun
      go_wp2
      go_ret
      exact ⟨rfl, _, HI6.out, by rw [HSV0.out]; exact grow_or HGB.out, by rw [HSV0.out]; exact HKK.out, HK6.out, HB6.out⟩
  · rw [he]
    clear he
    go_enter Try.func11, Try.ntmps11
    go_wp2_with fail
    with_reducible refine ((H _).out).mono ?_
    rintro e w1 ⟨rfl, hw⟩
    subst hw
    go_wp2
    change Code.wp _ _ _ _ (World.alloc w _)
    generalize World.alloc w _ = W1 at c0 c1 c2 hlt hb HK1 HB1 ⊢
    have b0 := hb.cell 0
    have b1 := hb.cell 1
    have b2 := hb.cell 2
    have b3 := hb.cell 3
    have hlb := hb.lt
    simp at b0 b1 b2 b3
    clear hb c1 c2
    go_region_held3 (fun W' => W'.cell? ⟨w.heap.size, 3, none⟩ = some (.int .u64 (lab : Int)) ∧ W'.cell? ⟨G, k * 3, none⟩ = some (.int .u64 (m : Int))) (first | assumption | go_keep)
      (first
        | (go_at_call 20
           with_reducible refine ((HJ _).out).mono ?_
           rintro e w5 ⟨rfl, hw⟩
           subst hw)
        | (go_at_call 19
           with_reducible refine ((HF _).out).mono ?_
           rintro e w5 ⟨rfl, hw⟩
           subst hw))
    go_wp2
    have hk5 := Lib.hid (((HK1.out.alloc (.cells #[.int .u64 (pc : Int), .int .u64 (lab : Int)] 23)).alloc (.cells #[.int .i64 (k : Int), .int .i64 kd, .int .i64 0, .string ⟨#[]⟩] 65)).drew)
    have hb5 := Lib.hid (((HB1.out.alloc (Nat.le_trans hBw HB1.out.size) (.cells #[.int .u64 (pc : Int), .int .u64 (lab : Int)] 23)).alloc (by have := HB1.out.size; simp; omega) (.cells #[.int .i64 (k : Int), .int .i64 kd, .int .i64 0, .string ⟨#[]⟩] 65)).drew)
    have hx5 := (Has.new (W1.alloc (.cells #[.int .u64 (pc : Int), .int .u64 (lab : Int)] 23)) 65 [.int .i64 (k : Int), .int .i64 kd, .int .i64 0, .string ⟨#[]⟩]).drew
    simp only [World.size_alloc] at hx5
    generalize World.drew _ = W5 at hk5 hb5 hx5 ⊢
    have e0 := hx5.cell 0
    have e1 := hx5.cell 1
    have e2 := hx5.cell 2
    have e3 := hx5.cell 3
    have hle := hx5.lt
    simp at e0 e1 e2 e3
    have hG5 := HG.out.keepsT hk5.out (by simp)
    have hl5 := hG5.lt
    have hBs := hb5.out.size
    obtain ⟨g', cap', w6, hrun, a0, a1, a2, hI6, hgb, hkk, hk6, hb6⟩ := app_Wv B G l ev ⟨k, kd, 0, ⟨#[]⟩⟩ sv hev W5 (Nat.le_trans hBw hBs) hG5 (own_keepsT HO.out hk5.out (by simp)) hBG hl8 (fun c hm => (HOK.out c hm).keeps hk5.out (by simp))
    simp only [Ev.cells] at hrun
    obtain ⟨av, cp, hsv⟩ := HS.out
    subst hsv
    have d24 : W5.cell? ⟨G, 24, none⟩ = some (.slice av ev.length cp) := by
      rw [hG5.cell, List.getElem?_append_right (by rw [rowC_len]; omega), rowC_len, hl8]
      rfl
    have HI6 := Lib.hid hI6
    have HK6 := Lib.hid ((hk5.out.mono (by simp)).trans hk6 (fun _ h => h))
    have HB6 := Lib.hid (hb5.out.trans hb6)
    have HKK := Lib.hid ((Keeps.ofT hk5.out (G :: (Value.slice av ev.length cp).ownBlock.toList)).trans hkk (fun _ h => .inl h))
    have HGB := Lib.hid (hgb.imp id (fun h => Nat.le_trans hk5.out.size h))
    clear hx5 hG5 hI6 hk6 hb6 hk5 hb5 hgb hkk c0 hlt b0 b1 b2 b3 hlb HK1 HB1 HG HO HOK HS hBs
    go_region_law (refine step_append_own rfl (.tmp 49) (.tmp 51) 35 rfl _ _ _ _ rfl rfl hrun ?_)
    all_goals
      clear hrun
      go_wp2
      go_ret
      exact ⟨rfl, _, HI6.out, by rw [HSV0.out]; exact grow_or HGB.out, by rw [HSV0.out]; exact HKK.out, HK6.out, HB6.out⟩
end WorldD
end Go.Proofs.Yteohgacblilfmaa
