/- The contracts of package guard. -/
import Derived.Test.YtnlblmdmhfahpaaGuardM
import Derived.Test.YtnlblmdmhfahpaaLabel
import Derived.Test.YtnlblmdmhfahpaaObj
import Derived.RegionTactic
import Derived.BigQuiet
import Derived.Outline
import Derived.WalkSmall
namespace Go.Proofs.Ytnlblmdmhfahpaa
open Go.RowKit ObjM
namespace GuardD
open LabelM LabelD GuardM

theorem infoReg : (Try.prog.info? 52).map (fun i => (i.zero, i.size, i.bytes)) = some (some (.agg #[.int .i64 0, .int .i64 0, .int .u64 0]), 3, 24) := by kernel_rfl

set_option maxRecDepth 100000 in
set_option maxHeartbeats 1000000 in
theorem top_none (v : Value) (h : v = .slice none 0 0 ∨ ∃ a c, v = .slice (some a) 0 c) (w : World) :
    Calls Try.prog 18 #[v] w fun e w' => e = .returned (.tuple #[.agg #[.int .i64 0, .int .i64 0, .int .u64 0], .bool false]) ∧ Below w.heap.size w w' := by
  rcases h with rfl | ⟨a, c, rfl⟩
  all_goals
    go_enter Try.func18, Try.ntmps18
    go_wp2
    exact bodyPost_ret (v := .tuple #[.agg #[.int .i64 0, .int .i64 0, .int .u64 0], .bool false]) (by simp [results, Try.results18, go_sem]) rfl ⟨rfl, (Below.refl _ _).alloc (Nat.le_refl _) _⟩

set_option maxRecDepth 100000 in
set_option maxHeartbeats 1000000 in
theorem top_some (g n c : Nat) (hn : n ≤ 4611686018427387904) (r : Reg) (w : World) (h0 : w.cell? ⟨g, n * 3, none⟩ = some (.int .i64 r.join)) (h1 : w.cell? ⟨g, n * 3 + 1, none⟩ = some (.int .i64 r.tag)) (h2 : w.cell? ⟨g, n * 3 + 2, none⟩ = some (.int .u64 (r.was : Int))) :
    Calls Try.prog 18 #[.slice (some ⟨g, 0, none⟩) (n + 1) c] w fun e w' => e = .returned (.tuple #[.agg r.cells.toArray, .bool true]) ∧ Below w.heap.size w w' := by
  have hlt := World.block_lt_of_cell? w _ h0
  obtain ⟨j, t, a⟩ := r
  simp only at h0 h1 h2
  go_enter Try.func18, Try.ntmps18
  go_wp2
  exact bodyPost_ret (v := .tuple #[.agg #[.int .i64 j, .int .i64 t, .int .u64 a], .bool true]) (by simp [results, Try.results18, go_sem]) rfl ⟨rfl, (Below.refl _ _).alloc (Nat.le_refl _) _⟩

set_option maxRecDepth 100000 in
set_option maxHeartbeats 1000000 in
theorem new_any (l : Nat) (w : World) :
    Calls Try.prog 8 #[.int .u64 l] w fun e w' => e = .returned (.pointer (some ⟨w.heap.size, 0, none⟩)) ∧ w.alloc (.cells #[.slice none 0 0, .int .u64 l] 50) = w' := by
  go_enter Try.func8, Try.ntmps8
  go_wp2
  go_ret
  exact ⟨rfl, rfl⟩

set_option maxHeartbeats 1000000 in
theorem pc_any (G : Nat) (sv : Value) (l : Nat) (w : World) (h : Has w G 50 [sv, .int .u64 l]) :
    Calls Try.prog 13 #[.pointer (some ⟨G, 0, none⟩)] w fun e w' => e = .returned (.int .u64 l) ∧ w = w' := by
  have h1 := h.cell 1
  simp at h1
  go_enter Try.func13, Try.ntmps13
  go_wp2
  go_ret
  exact ⟨rfl, rfl⟩
set_option maxHeartbeats 1000000 in
theorem pc_none (w : World) :
    Calls Try.prog 13 #[.pointer none] w fun e w' => e = .returned (.int .u64 18446744073709551615) ∧ w = w' := by
  go_enter Try.func13, Try.ntmps13
  go_wp2
  go_ret
  exact ⟨rfl, rfl⟩
set_option maxHeartbeats 1000000 in
theorem deep_any (G : Nat) (n c : Nat) (a : Option Addr) (lv : Value) (w : World) (h : Has w G 50 [.slice a n c, lv]) :
    Calls Try.prog 14 #[.pointer (some ⟨G, 0, none⟩)] w fun e w' => e = .returned (.int .i64 n) ∧ w = w' := by
  have h1 := h.cell 0
  simp at h1
  go_enter Try.func14, Try.ntmps14
  go_wp2
  go_ret
  exact ⟨rfl, rfl⟩
set_option maxHeartbeats 1000000 in
theorem deep_none (w : World) :
    Calls Try.prog 14 #[.pointer none] w fun e w' => e = .returned (.int .i64 0) ∧ w = w' := by
  go_enter Try.func14, Try.ntmps14
  go_wp2
  go_ret
  exact ⟨rfl, rfl⟩
set_option maxHeartbeats 1000000 in
theorem may_any (p : Option Addr) (pc l : Nat) (hp : pc < M64) (hl : l < M64) (w : World) (h : Calls Try.prog 13 #[.pointer p] w fun e w' => e = .returned (.int .u64 pc) ∧ w = w') :
    Calls Try.prog 15 #[.pointer p, .int .u64 l] w fun e w' => e = .returned (.bool (flowsB pc l)) ∧ w = w' := by
  have H1 := Lib.hid h
  have H2 := fun W => Lib.hid (flows_any pc l hp hl W)
  clear h
  go_enter Try.func15, Try.ntmps15
  go_wp2_with fail
  refine (H1.out).mono ?_
  rintro e w1 ⟨rfl, rfl⟩
  go_wp2_with fail
  refine ((H2 _).out).mono ?_
  rintro e w1 ⟨rfl, rfl⟩
  go_wp2
  go_ret
  exact ⟨rfl, rfl⟩

/-- A push onto the stack of a guard. -/
def Pushed (w : World) (B G : Nat) (n : Nat) (xs : List Value) (lv : Value) (e : Ending) (w' : World) : Prop :=
  e = .returned (.tuple #[]) ∧ ∃ sv', Has w' G 50 [sv', lv] ∧ w'.ownsRow B 52 3 sv' (n + 1) xs ∧ KeepsT [50, 52] w w' ∧ Below B w w'

set_option maxRecDepth 100000 in
set_option maxHeartbeats 2000000 in
theorem push_any (B G : Nat) (hBG : B ≤ G) (sv lv : Value) (n : Nat) (xs : List Value) (hn : n ≤ 1000000) (j t a : Int) (w : World) (h : Has w G 50 [sv, lv]) (hown : w.ownsRow B 52 3 sv n xs) :
    Calls Try.prog 19 #[.pointer (some ⟨G, 0, none⟩), .agg #[.int .i64 j, .int .i64 t, .int .u64 a]] w (Pushed w B G n (xs ++ [.int .i64 j, .int .i64 t, .int .u64 a]) lv) := by
  obtain ⟨i0, hi, hz0, hz1, hz2⟩ := info_parts infoReg
  have hG := h.lt
  have h0 := h.cell 0
  have hf := h.frozen 0
  simp at h0
  have hown1 : (((w.alloc (.cells #[.int .i64 j, .int .i64 t, .int .u64 a] 52)).alloc (.cells #[.int .i64 j, .int .i64 t, .int .u64 a] 52)).drew).ownsRow B 52 3 sv n xs := ((hown.alloc _).alloc _).drew
  obtain ⟨v', w1, hrun, hown', hgrow, -⟩ := run_append_own (P := Try.prog) (w := ((w.alloc (.cells #[.int .i64 j, .int .i64 t, .int .u64 a] 52)).alloc (.cells #[.int .i64 j, .int .i64 t, .int .u64 a] 52)).drew) B 48 48 52 i0 (.agg #[.int .i64 0, .int .i64 0, .int .u64 0]) 3 24 Try.underlying48 hi hz0 hz1 hz2 rfl (by decide) sv n xs hown1 ⟨w.heap.size + 1, 0, none⟩ 1 1 [.int .i64 j, .int .i64 t, .int .u64 a] rfl (by
    intro k u hu
    have hk := (List.getElem?_eq_some_iff.1 hu).1
    match k, hk with
    | 0, _ => simpa [Addr.add, World.cell?_alloc_at] using hu
    | 1, _ => simpa [Addr.add, World.cell?_alloc_at] using hu
    | 2, _ => simpa [Addr.add, World.cell?_alloc_at] using hu) (by simp [Value.oneCell']) (by unfold maxLen; omega) (by omega) (by simp; omega)
  obtain ⟨g', cap', rfl⟩ := ownsRow_succ hown'
  have hk1 : KeepsT [52] w w1 := ((((KeepsT.refl _ w).alloc _).alloc _).drew).grown hgrow (fun g hg => .inr (by
    obtain ⟨cs, hc⟩ := own_row hown1 g hg
    exact ⟨_, cs, hc, by simp⟩))
  have hb1 : Below B w w1 := ((((Below.refl B w).alloc (by omega) _).alloc (by simp; omega) _).drew).grown hgrow (by simp; omega) (fun g hg => (own_lt hown1 g hg).1)
  have hG1 : Has w1 G 50 [sv, lv] := h.keepsT hk1 (by decide)
  have hc1 := hG1.cell 0
  have hf1 := hG1.frozen 0
  simp at hc1
  have HEnd : Hid (Pushed w B G n (xs ++ [.int .i64 j, .int .i64 t, .int .u64 a]) lv (.returned (.tuple #[])) (w1.setCell ⟨G, 0, none⟩ (.slice (some ⟨g', 0, none⟩) (n + 1) cap'))) := Lib.hid (by
    refine ⟨rfl, _, hG1.set 0 _, ?_, ?_, hb1.setCell (p := ⟨G, 0, none⟩) hBG _⟩
    · exact own_keeps hown' (Keeps.set w1 G 0 _) (fun g hg => by
        have := own_ne hown' hG1 (by decide) g hg
        simpa using this)
    · exact (hk1.mono (by simp)).set hG1 (.inl (by simp)) 0 _)
  go_enter Try.func19, Try.ntmps19
  go_wp2
  go_region_law (refine step_append_own rfl (.tmp 7) (.tmp 9) 48 rfl _ _ _ _ rfl rfl hrun ?_)
  all_goals
    go_end0
    exact HEnd.out

/-- A pop off the stack of a guard. -/
def Popped (w : World) (B G : Nat) (g n cap : Nat) (lv : Value) (e : Ending) (w' : World) : Prop :=
  e = .returned (.tuple #[]) ∧ Has w' G 50 [.slice (some ⟨g, 0, none⟩) n cap, lv] ∧ KeepsT [50] w w' ∧ Below B w w'
set_option maxRecDepth 100000 in
set_option maxHeartbeats 2000000 in
theorem pop_any (B G : Nat) (hBG : B ≤ G) (lv : Value) (g n cap : Nat) (hn : n ≤ 1000000) (hc : n + 1 ≤ cap) (w : World) (h : Has w G 50 [.slice (some ⟨g, 0, none⟩) (n + 1) cap, lv]) :
    Calls Try.prog 21 #[.pointer (some ⟨G, 0, none⟩)] w (Popped w B G g n cap lv) := by
  have hG := h.lt
  have h0 := h.cell 0
  have hf := h.frozen 0
  simp at h0
  have HEnd : Hid (Popped w B G g n cap lv (.returned (.tuple #[])) (w.drew.setCell ⟨G, 0, none⟩ (.slice (some ⟨g, 0, none⟩) n cap))) := Lib.hid
    ⟨rfl, h.drew.set 0 _, (KeepsT.refl _ w).drew.set h.drew (.inl (by simp)) 0 _, ((Below.refl B w).drew).setCell (p := ⟨G, 0, none⟩) hBG _⟩
  go_enter Try.func21, Try.ntmps21
  go_wp2
  go_region
  all_goals
    go_end0
    exact HEnd.out
end GuardD
end Go.Proofs.Ytnlblmdmhfahpaa
