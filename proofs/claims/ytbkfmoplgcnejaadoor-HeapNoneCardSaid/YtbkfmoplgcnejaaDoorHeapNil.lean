/- A heap that nobody made: its calls. -/
import Derived.Test.YtbkfmoplgcnejaaDoorVal
import Derived.Test.YtbkfmoplgcnejaaDoorObj
import Derived.BigQuiet
import Derived.Deep.RegionHeld3
import Derived.Deep.RegionWith
namespace Go.Proofs.YtbkfmoplgcnejaaDoor
open Go.RowKit ObjM
namespace HeapD
open LabelM LabelD ValD

theorem drewN_below {n : Nat} {w W : World} (h : Below n w W) (q : Nat) : Below n w (W.drewN q) := h.trans ⟨rfl, rfl, rfl, Nat.le_refl _, fun _ _ => rfl⟩

set_option maxRecDepth 100000 in
theorem charge_nil (n : Int) (w : World) : Calls Tryd.prog 12 #[.pointer none, .int .i64 n] w fun e w' => e = .returned (.bool false) ∧ w = w' := by
  go_enter Tryd.func12, Tryd.ntmps12
  go_wp2
  all_goals first | (go_ret; exact ⟨rfl, rfl⟩) | exact bodyPost_ret (v := .bool false) (by simp [results, Tryd.results12, go_sem]) rfl ⟨rfl, rfl⟩
set_option maxRecDepth 100000 in
theorem used_nil (w : World) : Calls Tryd.prog 13 #[.pointer none] w fun e w' => e = .returned (.int .i64 0) ∧ w = w' := by
  go_enter Tryd.func13, Tryd.ntmps13
  go_wp2
  go_ret
  exact ⟨rfl, rfl⟩
set_option maxRecDepth 100000 in
theorem owns_nil (v : V) (w : World) : Calls Tryd.prog 31 #[.pointer none, v.agg] w fun e w' => e = .returned (.bool false) ∧ ∃ q, w' = (w.alloc (.cells v.cells 25)).drewN q := by
  obtain ⟨k, n, s, l⟩ := v
  simp only [V.cells]
  unfold V.agg
  simp only
  go_enter Tryd.func31, Tryd.ntmps31
  go_wp2
  go_quiet (fail)
  go_wp2
  go_ret
  exact ⟨rfl, _, rfl⟩
set_option maxRecDepth 100000 in
theorem of_nil (v : V) (w : World) : Calls Tryd.prog 14 #[.pointer none, v.agg] w fun e w' => e = .returned (.pointer none) ∧ ∃ q, w' = (w.alloc (.cells v.cells 25)).drewN q := by
  obtain ⟨k, n, s, l⟩ := v
  simp only [V.cells]
  unfold V.agg
  simp only
  go_enter Tryd.func14, Tryd.ntmps14
  go_wp2
  go_quiet (fail)
  go_wp2
  go_ret
  exact ⟨rfl, _, rfl⟩
theorem of_below {w w' : World} {o : Go.Obj} (h : ∃ q, w' = (w.alloc o).drewN q) : Below w.heap.size w w' := by
  obtain ⟨q, rfl⟩ := h
  exact drewN_below alloc1 q
set_option maxRecDepth 100000 in
theorem put_nil (c : Int) (a b v : V) (w : World) : Calls Tryd.prog 7 #[.pointer none, .int .u64 c, a.agg, b.agg, v.agg] w fun e w' => e = .returned (.tuple #[.int .i64 3, .bool true]) ∧ Below w.heap.size w w' := by
  have HO := Lib.hid (fun W => of_nil a W)
  obtain ⟨ak, an, as1, al⟩ := a
  obtain ⟨bk, bn, bs, bl⟩ := b
  obtain ⟨vk, vn, vs, vl⟩ := v
  have HA := Lib.hid ((alloc2 (w := w) (o := .cells #[.int .i64 ak, .int .i64 an, .string as1, .int .u64 (al : Int)] 25) (p := .cells #[.int .i64 bk, .int .i64 bn, .string bs, .int .u64 (bl : Int)] 25)).alloc (by simp; omega) (.cells #[.int .i64 vk, .int .i64 vn, .string vs, .int .u64 (vl : Int)] 25))
  unfold V.agg at HO ⊢
  simp only at HO ⊢
  go_enter Tryd.func7, Tryd.ntmps7
  go_wp2_with fail
  refine (HO.out _).mono ?_
  rintro e w2 ⟨rfl, hb⟩
  have HB := Lib.hid (HA.out.trans ((of_below hb).mono HA.out.size))
  clear hb
  go_wp2
  exact bodyPost_ret (v := .tuple #[.int .i64 3, .bool true]) (by simp [results, Tryd.results7, go_sem]) rfl ⟨rfl, HB.out⟩
set_option maxRecDepth 100000 in
theorem table_nil (c : Int) (w : World) : Calls Tryd.prog 6 #[.pointer none, .int .u64 c] w fun e w' => e = .returned (.tuple #[.agg #[.int .i64 0, .int .i64 0, .string ⟨#[]⟩, .int .u64 0], .bool false]) ∧ Below w.heap.size w w' := by
  have HC := Lib.hid (fun n W => charge_nil n W)
  have HA := Lib.hid (alloc1 (w := w) (o := .cells #[.int .i64 0, .int .i64 0, .string ⟨#[]⟩, .int .u64 0] 25))
  go_enter Tryd.func6, Tryd.ntmps6
  go_wp2_with fail
  refine (HC.out _ _).mono ?_
  rintro e w2 ⟨rfl, hw⟩
  subst hw
  go_wp2
  exact bodyPost_ret (v := .tuple #[.agg #[.int .i64 0, .int .i64 0, .string ⟨#[]⟩, .int .u64 0], .bool false]) (by simp [results, Tryd.results6, go_sem]) rfl ⟨rfl, HA.out⟩
set_option maxRecDepth 100000 in
theorem closure_nil (n : Int) (ca : Option Addr) (cl cc : Nat) (w : World) : Calls Tryd.prog 8 #[.pointer none, .int .i64 n, .slice ca cl cc] w fun e w' => e = .returned (.tuple #[.agg #[.int .i64 0, .int .i64 0, .string ⟨#[]⟩, .int .u64 0], .bool false]) ∧ Below w.heap.size w w' := by
  have HC := Lib.hid (fun n W => charge_nil n W)
  have HA := Lib.hid (alloc1 (w := w) (o := .cells #[.int .i64 0, .int .i64 0, .string ⟨#[]⟩, .int .u64 0] 25))
  go_enter Tryd.func8, Tryd.ntmps8
  go_wp2_with fail
  refine (HC.out _ _).mono ?_
  rintro e w2 ⟨rfl, hw⟩
  subst hw
  go_wp2
  exact bodyPost_ret (v := .tuple #[.agg #[.int .i64 0, .int .i64 0, .string ⟨#[]⟩, .int .u64 0], .bool false]) (by simp [results, Tryd.results8, go_sem]) rfl ⟨rfl, HA.out⟩
set_option maxRecDepth 100000 in
set_option maxHeartbeats 8000000 in
theorem fn_nil (v : V) (w : World) : Calls Tryd.prog 9 #[.pointer none, v.agg] w fun e w' => e = .returned (.tuple #[.agg #[.int .i64 0, .slice none 0 0, .int .i64 0, .int .i64 0, .string ⟨#[]⟩, .int .u64 0, .int .i64 0, .slice none 0 0, .slice none 0 0, .int .i64 0, .bool false], .bool false]) ∧ Below w.heap.size w w' := by
  have HO := Lib.hid (fun W => owns_nil v W)
  obtain ⟨k, n, s, l⟩ := v
  have HA := Lib.hid (alloc1 (w := w) (o := .cells #[.int .i64 k, .int .i64 n, .string s, .int .u64 (l : Int)] 25))
  unfold V.agg at HO ⊢
  simp only at HO ⊢
  go_enter Tryd.func9, Tryd.ntmps9
  go_wp2_with fail
  refine (HO.out _).mono ?_
  simp only [V.cells]
  rintro e w2 ⟨rfl, q, rfl⟩
  go_wp2
  refine bodyPost_ret (v := .tuple #[.agg #[.int .i64 0, .slice none 0 0, .int .i64 0, .int .i64 0, .string ⟨#[]⟩, .int .u64 0, .int .i64 0, .slice none 0 0, .slice none 0 0, .int .i64 0, .bool false], .bool false]) (by simp [results, Tryd.results9, go_sem]) rfl ⟨rfl, ?_⟩
  repeat first
    | (with_reducible exact Below.refl _ _)
    | refine Below.setCell ?_ (by first | omega | (simp; done) | (simp; omega)) _
    | refine drewN_below ?_ _
    | refine Below.alloc ?_ (by first | omega | (simp; done) | (simp; omega)) _
set_option maxRecDepth 100000 in
theorem cell_nil (v : V) (w : World) : Calls Tryd.prog 10 #[.pointer none, v.agg] w fun e w' => e = .returned (.tuple #[.int .i64 0, .bool false]) ∧ Below w.heap.size w w' := by
  have HC := Lib.hid (fun n W => charge_nil n W)
  obtain ⟨k, n, s, l⟩ := v
  have HA := Lib.hid (alloc1 (w := w) (o := .cells #[.int .i64 k, .int .i64 n, .string s, .int .u64 (l : Int)] 25))
  unfold V.agg
  simp only
  go_enter Tryd.func10, Tryd.ntmps10
  go_wp2_with fail
  refine (HC.out _ _).mono ?_
  rintro e w2 ⟨rfl, hw⟩
  subst hw
  go_wp2
  exact bodyPost_ret (v := .tuple #[.int .i64 0, .bool false]) (by simp [results, Tryd.results10, go_sem]) rfl ⟨rfl, HA.out⟩
set_option maxRecDepth 100000 in
theorem store_nil (c : Int) (m : Int) (v : V) (w : World) : Calls Tryd.prog 15 #[.pointer none, .int .u64 c, .int .i64 m, v.agg] w fun e w' => e = .returned (.int .i64 3) ∧ Below w.heap.size w w' := by
  obtain ⟨k, n, s, l⟩ := v
  have HA := Lib.hid (alloc1 (w := w) (o := .cells #[.int .i64 k, .int .i64 n, .string s, .int .u64 (l : Int)] 25))
  unfold V.agg
  simp only
  go_enter Tryd.func15, Tryd.ntmps15
  go_wp2
  go_ret
  exact ⟨rfl, HA.out⟩
set_option maxRecDepth 100000 in
theorem load_nil (m : Int) (w : World) : Calls Tryd.prog 16 #[.pointer none, .int .i64 m] w fun e w' => e = .returned (.agg #[.int .i64 0, .int .i64 0, .string ⟨#[]⟩, .int .u64 0]) ∧ Below w.heap.size w w' := by
  have HA := Lib.hid (alloc1 (w := w) (o := .cells #[.int .i64 0, .int .i64 0, .string ⟨#[]⟩, .int .u64 0] 25))
  go_enter Tryd.func16, Tryd.ntmps16
  go_wp2
  exact bodyPost_ret (v := .agg #[.int .i64 0, .int .i64 0, .string ⟨#[]⟩, .int .u64 0]) (by simp [results, Tryd.results16, go_sem]) rfl ⟨rfl, HA.out⟩
def ZeroV : Value := .agg #[.int .i64 0, .int .i64 0, .string ⟨#[]⟩, .int .u64 0]
def GetNo (w : World) (e : Ending) (w' : World) : Prop := e = .returned (.agg #[.int .i64 0, .int .i64 0, .string ⟨#[]⟩, .int .u64 0]) ∧ Below w.heap.size w w'
set_option maxRecDepth 100000 in
set_option maxHeartbeats 8000000 in
theorem get_nil (a b : V) (w : World) : Calls Tryd.prog 17 #[.pointer none, a.agg, b.agg] w (GetNo w) := by
  have HO := Lib.hid (fun W => of_nil a W)
  obtain ⟨ak, an, as1, al⟩ := a
  obtain ⟨bk, bn, bs, bl⟩ := b
  unfold V.agg at HO ⊢
  simp only [V.cells] at HO ⊢
  go_enter Tryd.func17, Tryd.ntmps17
  go_wp2_with fail
  refine (HO.out _).mono ?_
  rintro e w2 ⟨rfl, q, rfl⟩
  clear HO
  go_wp2
  refine bodyPost_ret (v := .agg #[.int .i64 0, .int .i64 0, .string ⟨#[]⟩, .int .u64 0]) (by simp [results, Tryd.results17, go_sem]) rfl ⟨rfl, ?_⟩
  repeat first
    | (with_reducible exact Below.refl _ _)
    | refine Below.setCell ?_ (by first | omega | (simp; done) | (simp; omega)) _
    | refine drewN_below ?_ _
    | refine Below.alloc ?_ (by first | omega | (simp; done) | (simp; omega)) _
set_option maxRecDepth 100000 in
set_option maxHeartbeats 8000000 in
theorem base_nil (v : V) (w : World) : Calls Tryd.prog 18 #[.pointer none, v.agg] w fun e w' => e = .returned v.agg ∧ Below w.heap.size w w' := by
  have HO := Lib.hid (fun W => owns_nil v W)
  obtain ⟨k, n, s, l⟩ := v
  unfold V.agg at HO ⊢
  simp only [V.cells] at HO ⊢
  go_enter Tryd.func18, Tryd.ntmps18
  go_wp2
  go_loopw [] (fun wr => wr = ((w.alloc (.cells #[.int .i64 k, .int .i64 n, .string s, .int .u64 (l : Int)] 25)).alloc (.cells #[.int .i64 0, .int .i64 0, .string ⟨#[]⟩, .int .u64 0] 25))) (fun _ => 0)
  case atStart => rfl
  case round =>
    obtain rfl := hrel
    go_wp2
    first
      | (go_region_with (first
          | (go_at_call 31
             refine (HO.out _).mono ?_
             rintro e w2 ⟨rfl, q, rfl⟩)))
      | fail
    all_goals
      go_wp2
      refine bodyPost_ret (v := .agg #[.int .i64 k, .int .i64 n, .string s, .int .u64 (l : Int)]) (by simp [results, Tryd.results18, go_sem]) rfl ⟨rfl, ?_⟩
      repeat first
        | (with_reducible exact Below.refl _ _)
        | refine Below.setCell ?_ (by first | omega | (simp; done) | (simp; omega)) _
        | refine drewN_below ?_ _
        | refine Below.alloc ?_ (by first | omega | (simp; done) | (simp; omega)) _
end HeapD
end Go.Proofs.YtbkfmoplgcnejaaDoor
