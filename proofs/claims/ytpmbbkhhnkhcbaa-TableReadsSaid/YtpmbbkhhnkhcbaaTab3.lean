/- Finding and getting fields of a table. -/
import Derived.Test.YtpmbbkhhnkhcbaaTab2
namespace Go.Proofs.Ytpmbbkhhnkhcbaa
open Go.RowKit ObjM Go.Maps
namespace TabD
open LabelM LabelD ValD

/-- Block T is a table without stamps. -/
def IsT (w : World) (B T lab : Nat) (fs : List Fd) (fv : Value) (pm : Option Nat) (sv nm : Value) : Prop :=
  Has w T 66 [.int .u64 (lab : Int), fv, .map pm, sv, nm] ∧ w.ownsRow B 42 8 fv fs.length (rowF fs) ∧ PlacesOk w B pm fs ∧ B ≤ T ∧ lab < M64 ∧ (∀ f ∈ fs, VOk f.1 ∧ VOk f.2) ∧ fs.length ≤ 1000000
theorem IsT.below {w w' : World} {B T lab : Nat} {fs : List Fd} {fv sv nm : Value} {pm : Option Nat} (h : IsT w B T lab fs fv pm sv nm) (hb : Below w.heap.size w w') : IsT w' B T lab fs fv pm sv nm := by
  obtain ⟨h1, h2, h3, h4⟩ := h
  refine ⟨h1.keepsT (KeepsT.below hb []) (by simp), own_keepsT h2 (KeepsT.below hb []) (by simp), h3.below fun b hbp => ?_, h4⟩
  subst hbp
  exact hb.block b h3.lt
theorem IsT.drewN {w : World} {B T lab : Nat} {fs : List Fd} {fv sv nm : Value} {pm : Option Nat} (h : IsT w B T lab fs fv pm sv nm) (n : Nat) : IsT (w.drewN n) B T lab fs fv pm sv nm := h
def FindIs (w : World) (n : Int) (b : Bool) (e : Ending) (w' : World) : Prop := e = .returned (.tuple #[.int .i64 n, .bool b]) ∧ Below w.heap.size w w'
theorem below_drewN {b : Nat} {w w' : World} (h : Below b w w') (n : Nat) : Below b w (w'.drewN n) := ⟨h.os, h.tape, h.output, h.size, fun k hk => h.block k hk⟩

set_option maxRecDepth 100000 in
set_option maxHeartbeats 1000000 in
theorem find_nil (v : V) (w : World) : Calls Try.prog 31 #[.pointer none, v.agg] w (FindIs w 0 false) := by
  have HK := fun W => Lib.hid (keyOf_any v W)
  obtain ⟨vk, vn, vs, vl⟩ := v
  simp only [V.agg] at HK ⊢
  go_enter Try.func31, Try.ntmps31
  go_wp2_with fail
  refine ((HK _).out).mono ?_
  rintro e w1 ⟨rfl, hb1⟩
  simp only [kval]
  have HB := Lib.hid (((Below.refl w.heap.size w).alloc (Nat.le_refl _) (.cells #[.int .i64 vk, .int .i64 vn, .string vs, .int .u64 (vl : Int)] 35)).trans (hb1.mono (by simp)))
  clear hb1
  go_wp2
  refine bodyPost_ret (v := .tuple #[.int .i64 0, .bool false]) (by simp [results, Try.results31, go_sem]) rfl ⟨rfl, HB.out.alloc HB.out.size _⟩
set_option maxRecDepth 100000 in
set_option maxHeartbeats 1000000 in
theorem find_nokey (p : Addr) (v : V) (hk : keyB v = false) (w : World) : Calls Try.prog 31 #[.pointer (some p), v.agg] w (FindIs w 0 false) := by
  have HK := fun W => Lib.hid (keyOf_any v W)
  unfold KeyIs at HK
  rw [hk] at HK
  clear hk
  obtain ⟨vk, vn, vs, vl⟩ := v
  simp only [V.agg] at HK ⊢
  go_enter Try.func31, Try.ntmps31
  go_wp2_with fail
  refine ((HK _).out).mono ?_
  rintro e w1 ⟨rfl, hb1⟩
  simp only [kval]
  have HB := Lib.hid (((Below.refl w.heap.size w).alloc (Nat.le_refl _) (.cells #[.int .i64 vk, .int .i64 vn, .string vs, .int .u64 (vl : Int)] 35)).trans (hb1.mono (by simp)))
  clear hb1
  go_wp2
  refine bodyPost_ret (v := .tuple #[.int .i64 0, .bool false]) (by simp [results, Try.results31, go_sem]) rfl ⟨rfl, HB.out.alloc HB.out.size _⟩
set_option maxRecDepth 100000 in
set_option maxHeartbeats 1000000 in
theorem find_key (B T lab : Nat) (fs : List Fd) (fv sv nm : Value) (pm : Option Nat) (v : V) (hv : VOk v) (hk : keyB v = true) (w : World) (h : IsT w B T lab fs fv pm sv nm) : Calls Try.prog 31 #[.pointer (some ⟨T, 0, none⟩), v.agg] w (FindIs w (placeI fs v) (placeB fs v)) := by
  have HK := fun W => Lib.hid (keyOf_any v W)
  unfold KeyIs at HK
  rw [hk] at HK
  have HL := Lib.hid (fun (W : World) (hb : Below w.heap.size w W) => look_places (h.below hb).2.2.1 v hv)
  have HT := Lib.hid (fun (W : World) (hb : Below w.heap.size w W) => (h.below hb).1)
  clear hk h hv
  obtain ⟨pi, hpi⟩ : ∃ x, placeI fs v = x := ⟨_, rfl⟩
  obtain ⟨pb, hpb⟩ : ∃ x, placeB fs v = x := ⟨_, rfl⟩
  simp only [hpi, hpb] at HL ⊢
  clear hpi hpb
  obtain ⟨vk, vn, vs, vl⟩ := v
  simp only [V.agg, kval] at HK HL ⊢
  go_enter Try.func31, Try.ntmps31
  go_wp2_with fail
  refine ((HK _).out).mono ?_
  rintro e w1 ⟨rfl, hb1⟩
  have HB := Lib.hid ((((Below.refl w.heap.size w).alloc (Nat.le_refl _) (.cells #[.int .i64 vk, .int .i64 vn, .string vs, .int .u64 (vl : Int)] 35)).trans (hb1.mono (by simp))))
  have HB2 := Lib.hid (HB.out.alloc HB.out.size (.cells #[.int .i64 vk, .int .i64 vn, .string vs] 76))
  have h2 := (HT.out _ HB2.out).cell 2
  have hl := (HT.out _ HB2.out).lt
  simp only [List.getElem?_cons_succ, List.getElem?_cons_zero] at h2
  have hlk := fun n => HL.out _ (below_drewN HB2.out n)
  clear hb1
  go_wp2
  go_quiet (fail)
  go_wp2
  refine bodyPost_ret (v := .tuple #[.int .i64 pi, .bool pb]) (by simp [results, Try.results31, go_sem]) rfl ⟨rfl, below_drewN HB2.out _⟩
end TabD
end Go.Proofs.Ytpmbbkhhnkhcbaa
