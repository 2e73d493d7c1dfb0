/- Whether stamps, whether tables are alike. -/
import Derived.Test.YtpmbbkhhnkhcbaaTab40
import Derived.Test.YtpmbbkhhnkhcbaaTab39

namespace Go.Proofs.Ytpmbbkhhnkhcbaa
open Go.RowKit ObjM Go.Maps
namespace TabD
open LabelM LabelD ValD

theorem neSt (W : World) (s : ByteArray) (k : Int) : Sem.run Try.prog (binOp BinOp.neq 44 (.agg #[.string s, .int .i64 k]) (.agg #[.string s, .int .i64 k])) W = .ok (.bool false) W := by
  have h : Sem.run Try.prog (Op.equalIn 10000 44 (.agg #[.string s, .int .i64 k]) (.agg #[.string s, .int .i64 k])) W = .ok true W := by simp [go_sem]
  simp only [go_sem, h, Result.andThen]
  rfl
theorem eqStIn (W : World) (s : ByteArray) (k : Int) : Sem.run Try.prog (Op.equalIn 10000 44 (.agg #[.string s, .int .i64 k]) (.agg #[.string s, .int .i64 k])) W = .ok true W := by simp [go_sem]
theorem eqFdIn (W : World) (a b : Int) (s : ByteArray) (l : Int) (c d : Int) (t : ByteArray) (m : Int) : Sem.run Try.prog (Op.equalIn 10000 42 (.agg #[.int .i64 a, .int .i64 b, .string s, .int .u64 l, .int .i64 c, .int .i64 d, .string t, .int .u64 m]) (.agg #[.int .i64 a, .int .i64 b, .string s, .int .u64 l, .int .i64 c, .int .i64 d, .string t, .int .u64 m])) W = .ok true W := by simp [go_sem]
theorem neFd (W : World) (a b : Int) (s : ByteArray) (l : Int) (c d : Int) (t : ByteArray) (m : Int) : Sem.run Try.prog (binOp BinOp.neq 42 (.agg #[.int .i64 a, .int .i64 b, .string s, .int .u64 l, .int .i64 c, .int .i64 d, .string t, .int .u64 m]) (.agg #[.int .i64 a, .int .i64 b, .string s, .int .u64 l, .int .i64 c, .int .i64 d, .string t, .int .u64 m])) W = .ok (.bool false) W := by
  simp only [go_sem, eqFdIn, Result.andThen]
  rfl
set_option maxRecDepth 100000 in
set_option maxHeartbeats 4000000 in
theorem sts_same (B : Nat) (u v : Value) (ss : List St) (w : World) (hu : w.ownsRow B 44 2 u ss.length (rowS ss)) (hv : w.ownsRow B 44 2 v ss.length (rowS ss)) (hn : ss.length ≤ 1000000) :
    Calls Try.prog 42 #[u, v] w fun e w' => e = .returned (.bool true) ∧ Below w.heap.size w w' := by
  obtain ⟨ua, uc, rfl⟩ := own_slice hu
  obtain ⟨va, vc, rfl⟩ := own_slice hv
  have HS0 := Lib.hid (And.intro hu (And.intro hv (Below.refl w.heap.size w)))
  clear hu hv
  go_enter Try.func42, Try.ntmps42
  go_wp2
  go_loopw [13] (fun i wr => ∃ k : Nat, i = .int .i64 k ∧ k ≤ ss.length ∧ Hid (wr.ownsRow B 44 2 (.slice ua ss.length uc) ss.length (rowS ss) ∧ wr.ownsRow B 44 2 (.slice va ss.length vc) ss.length (rowS ss) ∧ Below w.heap.size w wr)) (fun i _ => ss.length - (intOf i).toNat)
  case atStart => exact ⟨0, rfl, Nat.zero_le _, HS0⟩
  case round =>
    obtain ⟨k, rfl, hk, HS⟩ := hrel
    by_cases hlt : k < ss.length
    · obtain ⟨⟨s1, s2⟩, hs⟩ : ∃ s, ss[k]? = some s := ⟨_, List.getElem?_eq_getElem hlt⟩
      obtain ⟨g10, rfl, l10, q0, q1⟩ := stamp_at HS.out.1 hs
      obtain ⟨g12, rfl, l12, r0, r1⟩ := stamp_at HS.out.2.1 hs
      simp only at q0 q1 r0 r1
      have hne := fun W => neSt W s1 s2
      have hee := fun W => eqStIn W s1 s2
      have hi1 : (k : Int) < (ss.length : Int) := by omega
      have hi0 : (0 : Int) ≤ (k : Int) := by omega
      clear hs
      go_wp2
      go_quiet (fail)
      go_wp2
      go_roundw
      case rel => exact ⟨k + 1, by go_num, by omega, Lib.hid ⟨own_keeps HS.out.1 (Keeps.drewN [] _ _) (by simp), own_keeps HS.out.2.1 (Keeps.drewN [] _ _) (by simp), below_drewN HS.out.2.2 _⟩⟩
      case measure => simp [intOf]; omega
    · have : k = ss.length := by omega
      subst this
      go_wp2
      go_ret
      exact ⟨rfl, HS.out.2.2⟩
theorem both_len {W : World} {B T R lab N : Nat} {fs : List Fd} {ss : List St} {O : List Nat} (h : Both W B T R lab N fs ss O) : Calls Try.prog 21 #[.pointer (some ⟨T, 0, none⟩)] W fun e w' => e = .returned (.int .i64 fs.length) ∧ W = w' := by
  obtain ⟨fv, pm, sv, nm, gv, rv, h1, -⟩ := h
  obtain ⟨av, cap, rfl⟩ := own_slice h1.1.2.1
  exact tlen_any T _ av fs.length cap _ W h1.1.1
theorem both_label {W : World} {B T R lab N : Nat} {fs : List Fd} {ss : List St} {O : List Nat} (h : Both W B T R lab N fs ss O) : Calls Try.prog 22 #[.pointer (some ⟨T, 0, none⟩)] W fun e w' => e = .returned (.int .u64 (lab : Int)) ∧ W = w' := by
  obtain ⟨fv, pm, sv, nm, gv, rv, h1, -⟩ := h
  exact tlabel_any T _ (lab : Int) W h1.1.1
set_option maxRecDepth 100000 in
set_option maxHeartbeats 8000000 in
theorem alike_any {w : World} {B T R lab N : Nat} {fs : List Fd} {ss : List St} {O : List Nat} (hb : Both w B T R lab N fs ss O) : Calls Try.prog 24 #[.pointer (some ⟨T, 0, none⟩), .pointer (some ⟨R, 0, none⟩)] w fun e w' => e = .returned (.bool true) ∧ Below w.heap.size w w' := by
  have HBo := Lib.hid hb
  have hlens := both_lens hb
  have HFi := Lib.hid (both_fields hb)
  obtain ⟨fv, pm, sv, nm, gv, rv, -, h2, -⟩ := hb
  obtain ⟨ag, cg, rfl⟩ := own_slice h2.1.2.1
  obtain ⟨ar, cr, rfl⟩ := own_slice h2.2.1
  have HRS := Lib.hid (fun (W : World) (hW : Below w.heap.size w W) => h2.below hW)
  clear h2
  go_enter Try.func24, Try.ntmps24
  go_wp2_with fail
  refine (HFi.out).mono ?_
  rintro e w1 ⟨u, rfl, ho, hb1⟩
  obtain ⟨a5, c5, rfl⟩ := own_slice ho
  have HO1 := Lib.hid ho
  have HB1 := Lib.hid hb1
  have HBo1 := Lib.hid (HBo.out.below hb1)
  clear ho hb1 HFi
  have HLn := Lib.hid (fun (W : World) (hW : Below w1.heap.size w1 W) => both_len (HBo1.out.below hW))
  have HLa := Lib.hid (fun (W : World) (hW : Below w1.heap.size w1 W) => both_label (HBo1.out.below hW))
  have HSt := Lib.hid (fun (W : World) (hW : Below w1.heap.size w1 W) => both_stamps (HBo1.out.below hW))
  have HRS1 : Hid (∀ W, Below w1.heap.size w1 W → Below w.heap.size w W) := Lib.hid (fun W hW => HB1.out.trans (hW.mono HB1.out.size))
  have HSS : Hid (∀ W', Below w1.heap.size w1 W' → W'.cell? ⟨R, 0, none⟩ = some (.int .u64 (lab : Int)) ∧ W'.cell? ⟨R, 1, none⟩ = some (.slice ag fs.length cg) ∧ W'.cell? ⟨R, 2, none⟩ = some (.slice ar ss.length cr)) := Lib.hid (fun W' hW => by
    have hr := (HRS.out W' (HRS1.out W' hW)).1.1
    exact ⟨hr.cell 0, hr.cell 1, hr.cell 2⟩)
  have HRl := Lib.hid (HRS.out w1 HB1.out).1.1.lt
  obtain ⟨t0, t1, t2⟩ := HSS.out w1 (Below.refl _ _)
  have tl := HRl.out
  have p0 := (Below.refl w1.heap.size w1).drew
  go_wp2
  clear t0 t1 t2
  go_region_held3 (fun W' => W'.cell? ⟨R, 0, none⟩ = some (.int .u64 (lab : Int)) ∧ W'.cell? ⟨R, 1, none⟩ = some (.slice ag fs.length cg) ∧ W'.cell? ⟨R, 2, none⟩ = some (.slice ar ss.length cr))
    (first | exact HSS.out _ p0 | exact HSS.out _ p1 | exact HSS.out _ p2 | skip)
    (first
      | (go_at_call 21
         refine (HLn.out _ p0).mono ?_
         rintro e w3 ⟨rfl, hw⟩
         subst hw)
      | (go_at_call 22
         refine (HLa.out _ p0).mono ?_
         rintro e w3 ⟨rfl, hw⟩
         subst hw)
      | (go_at_call 12
         refine (HSt.out _ p0).mono ?_
         rintro e w3 ⟨u3, rfl, ho3, hb3⟩
         have p1 := p0.trans (hb3.mono p0.size)
         have ho3' := own_base ho3 (Nat.le_trans (both_size HBo1.out) p0.size))
      | (go_at_call 42
         refine (sts_same _ _ _ ss _ ho3' (HRS.out _ (HRS1.out _ p1)).2.1 (by omega)).mono ?_
         rintro e w4 ⟨rfl, hb4⟩
         have p2 := p1.trans (hb4.mono p1.size)))
  all_goals
    have HB4 := Lib.hid (HRS1.out _ p2)
    have HS0 : Hid (Below w.heap.size w w4 ∧ w4.ownsRow w.heap.size 42 8 (.slice a5 fs.length c5) fs.length (rowF fs)) := Lib.hid ⟨HB4.out, own_keeps HO1.out (Keeps.below' p2 []) (by simp)⟩
    clear p0 p1 p2 ho3' tl
    go_wp2
    go_loopw [48] (fun i wz => ∃ k : Nat, i = .int .i64 k ∧ k ≤ fs.length ∧ Hid (Below w.heap.size w wz ∧ wz.ownsRow w.heap.size 42 8 (.slice a5 fs.length c5) fs.length (rowF fs))) (fun i _ => fs.length - (intOf i).toNat)
    case atStart => exact ⟨0, rfl, Nat.zero_le _, HS0⟩
    case round =>
      obtain ⟨k, rfl, hk, HS⟩ := hrel
      by_cases hlt : k < fs.length
      · obtain ⟨⟨⟨x0, x1, x2, x3⟩, ⟨x4, x5, x6, x7⟩⟩, hf⟩ : ∃ f, fs[k]? = some f := ⟨_, List.getElem?_eq_getElem hlt⟩
        obtain ⟨g10, rfl, l10, q0, q1, q2, q3, q4, q5, q6, q7⟩ := field_at HS.out.2 hf
        have hr := HRS.out _ HS.out.1
        obtain ⟨g12, rfl, l12, r0, r1, r2, r3, r4, r5, r6, r7⟩ := field_at hr.1.2.1 hf
        have t1 := hr.1.1.cell 1
        have tl := hr.1.1.lt
        simp only [List.getElem?_cons_zero, List.getElem?_cons_succ] at t1
        have hne := fun W => neFd W x0 x1 x2 (x3 : Int) x4 x5 x6 (x7 : Int)
        have hee := fun W => eqFdIn W x0 x1 x2 (x3 : Int) x4 x5 x6 (x7 : Int)
        have hi1 : (k : Int) < (fs.length : Int) := by omega
        have hi0 : (0 : Int) ≤ (k : Int) := by omega
        clear hf hr
        go_wp2
        go_quiet (fail)
        go_wp2
        go_roundw
        case rel => exact ⟨k + 1, by go_num, by omega, Lib.hid ⟨below_drewN HS.out.1 _, own_keeps HS.out.2 (Keeps.drewN [] _ _) (by simp)⟩⟩
        case measure => simp [intOf]; omega
      · have : k = fs.length := by omega
        subst this
        go_wp2
        go_ret
        exact ⟨rfl, HS.out.1⟩
end TabD
end Go.Proofs.Ytpmbbkhhnkhcbaa
