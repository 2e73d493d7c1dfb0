/- Sets of places: whether two are alike. -/
import Derived.Test.YtajhkogknpmnbaaDoorFlowE
import Derived.BigQuiet
import Derived.Laws.Bits128
namespace Go.Proofs.YtajhkogknpmnbaaDoor
open Go.RowKit ObjM
namespace FlowD

set_option maxRecDepth 100000 in
set_option maxHeartbeats 8000000 in
theorem equal_one (G H x y c d : Nat) (w : World) (h : SetAt w G x) (k : SetAt w H y) : Calls Tryd.prog 53 #[.slice (some ⟨G, 0, none⟩) 1 c, .slice (some ⟨H, 0, none⟩) 1 d] w fun e w' => e = .returned (.bool (decide (x = y))) ∧ Keeps [] w w' := by
  have hl := h.lt
  have kl := k.lt
  have c1 := h.cell 0
  have c2 := k.cell 0
  simp only [List.getElem?_cons_zero] at c1 c2
  have HK : Hid (∀ n, Keeps [] w (w.drewN n)) := Lib.hid fun n => Keeps.drewN [] w n
  clear h k
  by_cases hxy : x = y
  · rw [decide_eq_true hxy]
    have hb : ((x : Int) != (y : Int)) = false := by simp [hxy]
    clear hxy
    go_enter Tryd.func53, Tryd.ntmps53
    go_wp2
    go_loopw [13] (fun i wr => (i = .int .i64 0 ∧ w = wr) ∨ (i = .int .i64 1 ∧ Hid (Keeps [] w wr))) (fun i _ => 1 - (intOf i).toNat)
    case atStart => exact .inl ⟨rfl, rfl⟩
    case round =>
      rcases hrel with ⟨rfl, rfl⟩ | ⟨rfl, HD⟩
      · go_wp2
        go_quiet (fail)
        go_wp2
        go_roundw
        case rel => exact .inr ⟨by go_num, Lib.hid (HK.out _)⟩
        case measure => simp [intOf]
      · go_wp2
        go_ret
        exact ⟨rfl, HD.out⟩
  · rw [decide_eq_false hxy]
    have hb : ((x : Int) != (y : Int)) = true := by simp; omega
    clear hxy
    go_enter Tryd.func53, Tryd.ntmps53
    go_wp2
    go_loopw [13] (fun i wr => i = .int .i64 0 ∧ w = wr) (fun _ _ => 0)
    case atStart => exact ⟨rfl, rfl⟩
    case round =>
      obtain ⟨rfl, rfl⟩ := hrel
      go_wp2
      go_quiet (fail)
      go_wp2
      go_ret
      exact ⟨rfl, HK.out _⟩
end FlowD
end Go.Proofs.YtajhkogknpmnbaaDoor
namespace Go.Proofs.YtajhkogknpmnbaaDoor
namespace PopM

def P1 (m x : Nat) : Nat := (x / 2 &&& m) + (x &&& m)
def P2 (m x : Nat) : Nat := (x / 4 &&& m) + (x &&& m)
def P3 (m x : Nat) : Nat := (x / 16 + x) &&& m
def bcount (l : Nat) : Nat := (List.range 8).countP l.testBit
theorem and_split {h l m k : Nat} (hl : l < 256) (hk : k < 256) : (256 * h + l) &&& (256 * m + k) = 256 * (h &&& m) + (l &&& k) := by
  have h1 : l &&& k < 2 ^ 8 := Nat.and_lt_two_pow _ hk
  apply Nat.eq_of_testBit_eq
  intro j
  rw [Nat.testBit_and]
  have e1 := Nat.testBit_two_pow_mul_add h (b := l) (i := 8) hl j
  have e2 := Nat.testBit_two_pow_mul_add m (b := k) (i := 8) hk j
  have e3 := Nat.testBit_two_pow_mul_add (h &&& m) (b := l &&& k) (i := 8) h1 j
  rw [show (2 : Nat) ^ 8 = 256 from rfl] at e1 e2 e3
  rw [e1, e2, e3]
  split
  · rw [Nat.testBit_and]
  · rw [Nat.testBit_and]
theorem t1 : ∀ (a : Fin 2) (b : Fin 128), (128 * a.val + b.val) &&& 0x55 = b.val &&& 0x55 := by decide +kernel
theorem t2 : ∀ (a : Fin 4) (b : Fin 64), (64 * a.val + b.val) &&& 0x33 = b.val &&& 0x33 := by decide +kernel
theorem t3 : ∀ (a : Fin 5) (b : Fin 69), (16 * a.val + b.val / 16 + b.val) &&& 15 = (b.val / 16 + b.val) &&& 15 := by decide +kernel
theorem t4 : ∀ l : Fin 256, P1 0x55 l.val < 256 ∧ P2 0x33 (P1 0x55 l.val) < 69 ∧ P2 0x33 (P1 0x55 l.val) % 16 < 5 ∧ P3 15 (P2 0x33 (P1 0x55 l.val)) = bcount l.val ∧ bcount l.val ≤ 8 := by decide +kernel
theorem p1_split {h l m : Nat} (hl : l < 256) : P1 (256 * m + 0x55) (256 * h + l) = 256 * P1 m h + P1 0x55 l := by
  unfold P1
  have e : (256 * h + l) / 2 = 256 * (h / 2) + (128 * (h % 2) + l / 2) := by omega
  have h1 := t1 ⟨h % 2, by omega⟩ ⟨l / 2, by omega⟩
  simp only at h1
  rw [e, and_split (by omega) (by omega), and_split hl (by omega), h1]
  omega
theorem p2_split {h l m : Nat} (hl : l < 256) : P2 (256 * m + 0x33) (256 * h + l) = 256 * P2 m h + P2 0x33 l := by
  unfold P2
  have e : (256 * h + l) / 4 = 256 * (h / 4) + (64 * (h % 4) + l / 4) := by omega
  have h1 := t2 ⟨h % 4, by omega⟩ ⟨l / 4, by omega⟩
  simp only at h1
  rw [e, and_split (by omega) (by omega), and_split hl (by omega), h1]
  omega
theorem p3_split {h l m : Nat} (hl : l < 69) (hh : h % 16 < 5) : P3 (256 * m + 15) (256 * h + l) = 256 * P3 m h + P3 15 l := by
  unfold P3
  have e : (256 * h + l) / 16 + (256 * h + l) = 256 * (h / 16 + h) + (16 * (h % 16) + l / 16 + l) := by omega
  have h1 := t3 ⟨h % 16, hh⟩ ⟨l, hl⟩
  simp only at h1
  rw [e, and_split (by omega) (by omega), h1]
def mk (c : Nat) : Nat → Nat
  | 0 => 0
  | k + 1 => 256 * mk c k + c
def two (k x : Nat) : Nat := P2 (mk 0x33 k) (P1 (mk 0x55 k) x)
def tot (k x : Nat) : Nat := P3 (mk 15 k) (two k x)
def cnt : Nat → Nat → Nat
  | 0, _ => 0
  | k + 1, x => 256 * cnt k (x / 256) + bcount (x % 256)
theorem two_succ (k x : Nat) : two (k + 1) x = 256 * two k (x / 256) + P2 0x33 (P1 0x55 (x % 256)) := by
  have h4 := t4 ⟨x % 256, Nat.mod_lt _ (by decide)⟩
  simp only at h4
  have e : x = 256 * (x / 256) + x % 256 := by omega
  show P2 (256 * mk 0x33 k + 0x33) (P1 (256 * mk 0x55 k + 0x55) x) = 256 * P2 (mk 0x33 k) (P1 (mk 0x55 k) (x / 256)) + _
  conv => lhs; rw [e]
  rw [p1_split (Nat.mod_lt _ (by decide)), p2_split h4.1]
theorem two_low (k x : Nat) : two k x % 16 < 5 := by
  cases k with
  | zero => simp [two, mk, P1, P2]
  | succ k =>
    rw [two_succ]
    have h4 := t4 ⟨x % 256, Nat.mod_lt _ (by decide)⟩
    simp only at h4
    omega
theorem tot_cnt : ∀ (k x : Nat), tot k x = cnt k x
  | 0, x => by simp [tot, mk, P3, cnt]
  | k + 1, x => by
    have h4 := t4 ⟨x % 256, Nat.mod_lt _ (by decide)⟩
    simp only at h4
    rw [cnt, ← tot_cnt k, tot, two_succ, mk, p3_split h4.2.1 (two_low _ _), h4.2.2.2.1]
    rfl
def popK (k x : Nat) : Nat := (List.range (8 * k)).countP x.testBit
theorem popK_succ (k x : Nat) : popK (k + 1) x = popK k (x / 256) + bcount (x % 256) := by
  unfold popK bcount
  rw [show 8 * (k + 1) = 8 + 8 * k by omega, List.range_add, List.countP_append, List.countP_map, Nat.add_comm]
  congr 1
  · apply List.countP_congr
    intro i _
    have h : (x / 2 ^ 8).testBit i = x.testBit (8 + i) := by rw [Nat.testBit_div_two_pow, Nat.add_comm]
    rw [show (256 : Nat) = 2 ^ 8 from rfl, h, Function.comp]
  · apply List.countP_congr
    intro i hi
    have hi := List.mem_range.1 hi
    have := Nat.testBit_mod_two_pow x 8 i
    rw [show (2 : Nat) ^ 8 = 256 from rfl] at this
    rw [this]
    simp [hi]
def popC (x : Nat) : Nat := (List.range 64).countP x.testBit
/-- The numbers of all bytes, put together. -/
def fold (z : Nat) : Nat := ((z + z / 256 + (z + z / 256) / 65536) + (z + z / 256 + (z + z / 256) / 65536) / 4294967296) &&& 127
theorem cnt_parts (x : Nat) : ∃ c0 c1 c2 c3 c4 c5 c6 c7 : Nat, c0 ≤ 8 ∧ c1 ≤ 8 ∧ c2 ≤ 8 ∧ c3 ≤ 8 ∧ c4 ≤ 8 ∧ c5 ≤ 8 ∧ c6 ≤ 8 ∧ c7 ≤ 8 ∧
    cnt 8 x = 256 * (256 * (256 * (256 * (256 * (256 * (256 * c7 + c6) + c5) + c4) + c3) + c2) + c1) + c0 ∧ popC x = c7 + c6 + c5 + c4 + c3 + c2 + c1 + c0 := by
  have hb : ∀ y, bcount (y % 256) ≤ 8 := fun y => (t4 ⟨y % 256, Nat.mod_lt _ (by decide)⟩).2.2.2.2
  refine ⟨bcount (x % 256), bcount ((x / 256) % 256), bcount (((x / 256) / 256) % 256), bcount ((((x / 256) / 256) / 256) % 256), bcount (((((x / 256) / 256) / 256) / 256) % 256), bcount ((((((x / 256) / 256) / 256) / 256) / 256) % 256), bcount (((((((x / 256) / 256) / 256) / 256) / 256) / 256) % 256), bcount ((((((((x / 256) / 256) / 256) / 256) / 256) / 256) / 256) % 256), hb _, hb _, hb _, hb _, hb _, hb _, hb _, hb _, ?_, ?_⟩
  · simp only [cnt, Nat.mul_zero, Nat.zero_add]
  · have e : popC x = popK 8 x := rfl
    rw [e, popK_succ, popK_succ, popK_succ, popK_succ, popK_succ, popK_succ, popK_succ, popK_succ]
    have e0 : ∀ y, popK 0 y = 0 := fun y => rfl
    rw [e0, Nat.zero_add]
theorem div_one {h a : Nat} (ha : a < 256) : (256 * h + a) / 256 = h := by omega
theorem div_two {h a b : Nat} (ha : a < 256) (hb : b < 256) : (256 * (256 * h + b) + a) / 65536 = h := by omega
theorem div_four {h a b c d : Nat} (ha : a < 256) (hb : b < 256) (hc : c < 256) (hd : d < 256) : (256 * (256 * (256 * (256 * h + d) + c) + b) + a) / 4294967296 = h := by omega
theorem mod_low {h a : Nat} (ha : a < 128) : (256 * h + a) % 128 = a := by omega
theorem up {h a n : Nat} (ha : a < 256) (hh : h < n) : 256 * h + a < 256 * n := by omega
theorem step_one (c0 c1 c2 c3 c4 c5 c6 c7 : Nat) (h0 : c0 < 256) : 256 * (256 * (256 * (256 * (256 * (256 * (256 * c7 + c6) + c5) + c4) + c3) + c2) + c1) + c0 + (256 * (256 * (256 * (256 * (256 * (256 * (256 * c7 + c6) + c5) + c4) + c3) + c2) + c1) + c0) / 256 =
      256 * (256 * (256 * (256 * (256 * (256 * (256 * c7 + (c6 + c7)) + (c5 + c6)) + (c4 + c5)) + (c3 + c4)) + (c2 + c3)) + (c1 + c2)) + (c0 + c1) := by
  rw [div_one h0]
  omega
theorem step_two (c0 c1 c2 c3 c4 c5 c6 c7 : Nat) (h0 : c0 < 256) (h1 : c1 < 256) : 256 * (256 * (256 * (256 * (256 * (256 * (256 * c7 + c6) + c5) + c4) + c3) + c2) + c1) + c0 + (256 * (256 * (256 * (256 * (256 * (256 * (256 * c7 + c6) + c5) + c4) + c3) + c2) + c1) + c0) / 65536 =
      256 * (256 * (256 * (256 * (256 * (256 * (256 * c7 + c6) + (c5 + c7)) + (c4 + c6)) + (c3 + c5)) + (c2 + c4)) + (c1 + c3)) + (c0 + c2) := by
  rw [div_two h0 h1]
  omega
theorem step_four (c0 c1 c2 c3 c4 c5 c6 c7 : Nat) (h0 : c0 < 256) (h1 : c1 < 256) (h2 : c2 < 256) (h3 : c3 < 256) : 256 * (256 * (256 * (256 * (256 * (256 * (256 * c7 + c6) + c5) + c4) + c3) + c2) + c1) + c0 + (256 * (256 * (256 * (256 * (256 * (256 * (256 * c7 + c6) + c5) + c4) + c3) + c2) + c1) + c0) / 4294967296 =
      256 * (256 * (256 * (256 * (256 * (256 * (256 * c7 + c6) + c5) + c4) + (c3 + c7)) + (c2 + c6)) + (c1 + c5)) + (c0 + c4) := by
  rw [div_four h0 h1 h2 h3]
  omega
theorem pack_lt (c0 c1 c2 c3 c4 c5 c6 c7 : Nat) (h0 : c0 < 256) (h1 : c1 < 256) (h2 : c2 < 256) (h3 : c3 < 256) (h4 : c4 < 256) (h5 : c5 < 256) (h6 : c6 < 256) (h7 : c7 < 64) : 256 * (256 * (256 * (256 * (256 * (256 * (256 * c7 + c6) + c5) + c4) + c3) + c2) + c1) + c0 < 4611686018427387904 :=
  up h0 (up h1 (up h2 (up h3 (up h4 (up h5 (up h6 h7))))))
theorem fold_of (c0 c1 c2 c3 c4 c5 c6 c7 z : Nat) (h0 : c0 ≤ 8) (h1 : c1 ≤ 8) (h2 : c2 ≤ 8) (h3 : c3 ≤ 8) (h4 : c4 ≤ 8) (h5 : c5 ≤ 8) (h6 : c6 ≤ 8) (h7 : c7 ≤ 8) (hz : z = 256 * (256 * (256 * (256 * (256 * (256 * (256 * c7 + c6) + c5) + c4) + c3) + c2) + c1) + c0) :
    fold z = c7 + c6 + c5 + c4 + c3 + c2 + c1 + c0 ∧ z + z / 256 < 4611686018427387904 ∧ z + z / 256 + (z + z / 256) / 65536 < 4611686018427387904 ∧
      (z + z / 256 + (z + z / 256) / 65536) + (z + z / 256 + (z + z / 256) / 65536) / 4294967296 < 4611686018427387904 := by
  have g0 : c0 < 256 := by clear hz; omega
  have g1 : c0 + c1 < 256 ∧ c1 + c2 < 256 ∧ c2 + c3 < 256 ∧ c3 + c4 < 256 ∧ c4 + c5 < 256 ∧ c5 + c6 < 256 ∧ c6 + c7 < 256 ∧ c7 < 64 := by clear hz; omega
  have g2 : c0 + c1 + (c2 + c3) < 256 ∧ c1 + c2 + (c3 + c4) < 256 ∧ c2 + c3 + (c4 + c5) < 256 ∧ c3 + c4 + (c5 + c6) < 256 ∧ c4 + c5 + (c6 + c7) < 256 ∧ c5 + c6 + c7 < 256 := by clear hz; omega
  have g3 : c0 + c1 + (c2 + c3) + (c4 + c5 + (c6 + c7)) < 128 ∧ c1 + c2 + (c3 + c4) + (c5 + c6 + c7) < 256 ∧ c2 + c3 + (c4 + c5) + (c6 + c7) < 256 ∧ c3 + c4 + (c5 + c6) + c7 < 256 := by clear hz; omega
  have g4 : c0 + c1 + (c2 + c3) + (c4 + c5 + (c6 + c7)) = c7 + c6 + c5 + c4 + c3 + c2 + c1 + c0 := by clear hz; omega
  have g5 : c0 + c1 + (c2 + c3) + (c4 + c5 + (c6 + c7)) < 256 := by clear hz; omega
  clear h0 h1 h2 h3 h4 h5 h6 h7
  have a1 := step_one c0 c1 c2 c3 c4 c5 c6 c7 g0
  rw [← hz] at a1
  have a2 := step_two (c0 + c1) (c1 + c2) (c2 + c3) (c3 + c4) (c4 + c5) (c5 + c6) (c6 + c7) c7 g1.1 g1.2.1
  rw [← a1] at a2
  have a3 := step_four (c0 + c1 + (c2 + c3)) (c1 + c2 + (c3 + c4)) (c2 + c3 + (c4 + c5)) (c3 + c4 + (c5 + c6)) (c4 + c5 + (c6 + c7)) (c5 + c6 + c7) (c6 + c7) c7 g2.1 g2.2.1 g2.2.2.1 g2.2.2.2.1
  rw [← a2] at a3
  have b1 : z + z / 256 < 4611686018427387904 := by
    rw [a1]
    exact pack_lt (c0 + c1) (c1 + c2) (c2 + c3) (c3 + c4) (c4 + c5) (c5 + c6) (c6 + c7) c7 g1.1 g1.2.1 g1.2.2.1 g1.2.2.2.1 g1.2.2.2.2.1 g1.2.2.2.2.2.1 g1.2.2.2.2.2.2.1 g1.2.2.2.2.2.2.2
  have b2 : z + z / 256 + (z + z / 256) / 65536 < 4611686018427387904 := by
    rw [a2]
    exact pack_lt (c0 + c1 + (c2 + c3)) (c1 + c2 + (c3 + c4)) (c2 + c3 + (c4 + c5)) (c3 + c4 + (c5 + c6)) (c4 + c5 + (c6 + c7)) (c5 + c6 + c7) (c6 + c7) c7 g2.1 g2.2.1 g2.2.2.1 g2.2.2.2.1 g2.2.2.2.2.1 g2.2.2.2.2.2 g1.2.2.2.2.2.2.1 g1.2.2.2.2.2.2.2
  have b3 : (z + z / 256 + (z + z / 256) / 65536) + (z + z / 256 + (z + z / 256) / 65536) / 4294967296 < 4611686018427387904 := by
    rw [a3]
    exact pack_lt _ _ _ _ (c4 + c5 + (c6 + c7)) (c5 + c6 + c7) (c6 + c7) c7 g5 g3.2.1 g3.2.2.1 g3.2.2.2 g2.2.2.2.2.1 g2.2.2.2.2.2 g1.2.2.2.2.2.2.1 g1.2.2.2.2.2.2.2
  refine ⟨?_, b1, b2, b3⟩
  unfold fold
  rw [a3, show (127 : Nat) = 2 ^ 7 - 1 from rfl, Nat.and_two_pow_sub_one_eq_mod, show (2 : Nat) ^ 7 = 128 from rfl, mod_low g3.1, g4]
theorem fold_cnt (x : Nat) : fold (cnt 8 x) = popC x ∧ cnt 8 x + cnt 8 x / 256 < 4611686018427387904 ∧ cnt 8 x + cnt 8 x / 256 + (cnt 8 x + cnt 8 x / 256) / 65536 < 4611686018427387904 ∧
    (cnt 8 x + cnt 8 x / 256 + (cnt 8 x + cnt 8 x / 256) / 65536) + (cnt 8 x + cnt 8 x / 256 + (cnt 8 x + cnt 8 x / 256) / 65536) / 4294967296 < 4611686018427387904 := by
  obtain ⟨c0, c1, c2, c3, c4, c5, c6, c7, h0, h1, h2, h3, h4, h5, h6, h7, hc, hp⟩ := cnt_parts x
  rw [hp]
  exact fold_of c0 c1 c2 c3 c4 c5 c6 c7 _ h0 h1 h2 h3 h4 h5 h6 h7 hc
end PopM
end Go.Proofs.YtajhkogknpmnbaaDoor
namespace Go.Proofs.YtajhkogknpmnbaaDoor
open Go.RowKit ObjM
namespace FlowD
open PopM

theorem w64 {x : Nat} (h : x < 18446744073709551616) : IntKind.u64.wrap (x : Int) = (x : Int) := IntWalk.u64_in _ ⟨by omega, by omega⟩
theorem and_bits {x m : Nat} (h : x < 18446744073709551616) (hm : m < 18446744073709551616) : bits BinOp.and IntKind.u64 (x : Int) (m : Int) = ((x &&& m : Nat) : Int) := u64_and_nat _ _ h hm
theorem p1_fact {x : Nat} (hx : x < 18446744073709551616) : P1 6148914691236517205 x < 18446744073709551616 ∧ IntKind.u64.wrap (bits BinOp.and IntKind.u64 ((x : Int) / 2) 6148914691236517205 + bits BinOp.and IntKind.u64 (x : Int) 6148914691236517205) = ((P1 6148914691236517205 x : Nat) : Int) := by
  have e1 : bits BinOp.and IntKind.u64 ((x : Int) / 2) 6148914691236517205 = ((x / 2 &&& 6148914691236517205 : Nat) : Int) := by
    have := and_bits (x := x / 2) (m := 6148914691236517205) (by omega) (by omega)
    rw [← this]
    rfl
  have e2 : bits BinOp.and IntKind.u64 (x : Int) 6148914691236517205 = ((x &&& 6148914691236517205 : Nat) : Int) := by
    have := and_bits (x := x) (m := 6148914691236517205) hx (by omega)
    rw [← this]
    rfl
  have l1 : x / 2 &&& 6148914691236517205 ≤ 6148914691236517205 := Nat.and_le_right
  have l2 : x &&& 6148914691236517205 ≤ 6148914691236517205 := Nat.and_le_right
  have e3 : P1 6148914691236517205 x = (x / 2 &&& 6148914691236517205) + (x &&& 6148914691236517205) := rfl
  rw [e1, e2, e3]
  generalize x / 2 &&& 6148914691236517205 = a at l1
  generalize x &&& 6148914691236517205 = b at l2
  clear e1 e2 e3
  refine ⟨by omega, ?_⟩
  rw [← Int.natCast_add]
  exact w64 (by omega)
theorem p2_fact {x : Nat} (hx : x < 18446744073709551616) : P2 3689348814741910323 x < 18446744073709551616 ∧ IntKind.u64.wrap (bits BinOp.and IntKind.u64 ((x : Int) / 4) 3689348814741910323 + bits BinOp.and IntKind.u64 (x : Int) 3689348814741910323) = ((P2 3689348814741910323 x : Nat) : Int) := by
  have e1 : bits BinOp.and IntKind.u64 ((x : Int) / 4) 3689348814741910323 = ((x / 4 &&& 3689348814741910323 : Nat) : Int) := by
    have := and_bits (x := x / 4) (m := 3689348814741910323) (by omega) (by omega)
    rw [← this]
    rfl
  have e2 : bits BinOp.and IntKind.u64 (x : Int) 3689348814741910323 = ((x &&& 3689348814741910323 : Nat) : Int) := by
    have := and_bits (x := x) (m := 3689348814741910323) hx (by omega)
    rw [← this]
    rfl
  have l1 : x / 4 &&& 3689348814741910323 ≤ 3689348814741910323 := Nat.and_le_right
  have l2 : x &&& 3689348814741910323 ≤ 3689348814741910323 := Nat.and_le_right
  have e3 : P2 3689348814741910323 x = (x / 4 &&& 3689348814741910323) + (x &&& 3689348814741910323) := rfl
  rw [e1, e2, e3]
  generalize x / 4 &&& 3689348814741910323 = a at l1
  generalize x &&& 3689348814741910323 = b at l2
  clear e1 e2 e3
  refine ⟨by omega, ?_⟩
  rw [← Int.natCast_add]
  exact w64 (by omega)
theorem p3_fact {x : Nat} (hx : x < 8000000000000000000) : P3 1085102592571150095 x < 18446744073709551616 ∧ bits BinOp.and IntKind.u64 (IntKind.u64.wrap ((x : Int) / 16 + (x : Int))) 1085102592571150095 = ((P3 1085102592571150095 x : Nat) : Int) := by
  have e0 : IntKind.u64.wrap ((x : Int) / 16 + (x : Int)) = ((x / 16 + x : Nat) : Int) := by
    have := w64 (x := x / 16 + x) (by omega)
    rw [← this]
    rfl
  have l1 : (x / 16 + x) &&& 1085102592571150095 ≤ 1085102592571150095 := Nat.and_le_right
  have e3 : P3 1085102592571150095 x = (x / 16 + x) &&& 1085102592571150095 := rfl
  rw [e0, e3]
  have hb := and_bits (x := x / 16 + x) (m := 1085102592571150095) (by omega) (by omega)
  refine ⟨?_, by rw [← hb]; rfl⟩
  clear hb
  generalize (x / 16 + x) &&& 1085102592571150095 = a at l1
  omega
theorem two_small (x : Nat) : P2 3689348814741910323 x < 8000000000000000000 := by
  have l1 : x / 4 &&& 3689348814741910323 ≤ 3689348814741910323 := Nat.and_le_right
  have l2 : x &&& 3689348814741910323 ≤ 3689348814741910323 := Nat.and_le_right
  have e3 : P2 3689348814741910323 x = (x / 4 &&& 3689348814741910323) + (x &&& 3689348814741910323) := rfl
  rw [e3]
  generalize x / 4 &&& 3689348814741910323 = a at l1
  generalize x &&& 3689348814741910323 = b at l2
  omega
theorem tot_eight (x : Nat) : P3 1085102592571150095 (P2 3689348814741910323 (P1 6148914691236517205 x)) = cnt 8 x := by
  have h := tot_cnt 8 x
  have e1 : mk 15 8 = 1085102592571150095 := by decide +kernel
  have e2 : mk 0x33 8 = 3689348814741910323 := by decide +kernel
  have e3 : mk 0x55 8 = 6148914691236517205 := by decide +kernel
  unfold tot two at h
  rw [e1, e2, e3] at h
  exact h
theorem up_fact {x d : Nat} (h : x + x / d < 18446744073709551616) : IntKind.u64.wrap ((x : Int) + (x : Int) / (d : Int)) = ((x + x / d : Nat) : Int) := by
  have := w64 h
  rw [← this]
  rfl
theorem and_127 (x : Nat) : bits BinOp.and IntKind.i64 (x : Int) 127 = ((x &&& 127 : Nat) : Int) := by
  rw [i64_and127, show (127 : Nat) = 2 ^ 7 - 1 from rfl, Nat.and_two_pow_sub_one_eq_mod]
  rfl
set_option maxRecDepth 100000 in
set_option maxHeartbeats 8000000 in
theorem ones_any (x : Nat) (hx : x < LabelM.M64) (w : World) : Calls Tryd.prog 54 #[.int .u64 (x : Int)] w fun e w' => e = .returned (.int .i64 (popC x : Int)) ∧ w = w' := by
  obtain ⟨b1, f1⟩ := p1_fact (x := x) hx
  obtain ⟨b2, f2⟩ := p2_fact b1
  have b2' := two_small (P1 6148914691236517205 x)
  obtain ⟨b3, f3⟩ := p3_fact b2'
  obtain ⟨c0, c1, c2, c3⟩ := fold_cnt x
  have ht := tot_eight x
  generalize P1 6148914691236517205 x = y1 at b1 f1 f2 b2 f3 b3 b2' ht
  generalize P2 3689348814741910323 y1 = y2 at b2 f2 b2' f3 b3 ht
  rw [ht] at f3 b3
  generalize cnt 8 x = z at c0 c1 c2 c3 f3 b3
  have f4 : IntKind.u64.wrap ((z : Int) + (z : Int) / 256) = ((z + z / 256 : Nat) : Int) := up_fact (x := z) (d := 256) (by omega)
  generalize hz1 : z + z / 256 = z1 at c1 c2 c3 f4
  have f5 : IntKind.u64.wrap ((z1 : Int) + (z1 : Int) / 65536) = ((z1 + z1 / 65536 : Nat) : Int) := up_fact (x := z1) (d := 65536) (by omega)
  generalize hz2 : z1 + z1 / 65536 = z2 at c2 c3 f5
  have f6 : IntKind.u64.wrap ((z2 : Int) + (z2 : Int) / 4294967296) = ((z2 + z2 / 4294967296 : Nat) : Int) := up_fact (x := z2) (d := 4294967296) (by omega)
  have f7 : popC x = (z2 + z2 / 4294967296) &&& 127 := by
    rw [← c0]
    unfold fold
    rw [hz1, hz2]
  generalize z2 + z2 / 4294967296 = z3 at c3 f6 f7
  have f8 := and_127 z3
  rw [← f7] at f8
  have f9 : wrap64 (z3 : Int) = (z3 : Int) := by unfold wrap64; omega
  generalize popC x = r at f8
  clear b1 b2 b2' b3 c0 c1 c2 c3 ht hz1 hz2 f7 hx
  go_enter Tryd.func54, Tryd.ntmps54
  go_wp2
  go_ret
  exact ⟨rfl, rfl⟩
theorem size_one (G x c : Nat) (w : World) (h : SetAt w G x) (hx : x < LabelM.M64) : Calls Tryd.prog 28 #[.slice (some ⟨G, 0, none⟩) 1 c] w fun e w' => e = .returned (.int .i64 (popC x : Int)) ∧ w = w' := by
  have hl := h.lt
  have hc := h.cell 0
  simp only [List.getElem?_cons_zero] at hc
  have HO := Lib.hid (ones_any x hx w)
  have hp : popC x ≤ 64 := by
    have := List.countP_le_length (p := x.testBit) (l := List.range 64)
    simpa [popC] using this
  generalize popC x = r at HO hp
  have hw : IntKind.i64.wrap (0 + (r : Int)) = (r : Int) := by
    rw [Int.zero_add]
    exact IntWalk.i64_in _ (by omega)
  have hw2 : IntKind.i64.wrap (r : Int) = (r : Int) := IntWalk.i64_in _ (by omega)
  clear h hx
  go_enter Tryd.func28, Tryd.ntmps28
  go_wp2
  go_loopw [8, 3] (fun i s wr => (i = .int .i64 0 ∧ s = .int .i64 0 ∧ w = wr) ∨ (i = .int .i64 1 ∧ s = .int .i64 (r : Int) ∧ w = wr)) (fun i _ _ => 1 - (intOf i).toNat)
  case atStart => exact .inl ⟨rfl, rfl, rfl⟩
  case round =>
    rcases hrel with ⟨rfl, rfl, rfl⟩ | ⟨rfl, rfl, rfl⟩
    · go_wp2_with fail
      refine HO.out.mono ?_
      rintro e w' ⟨rfl, rfl⟩
      go_wp2
      go_roundw
      case rel => exact .inr ⟨by go_num, rfl, by first | rfl | trivial⟩
      case measure => simp [intOf]
    · go_wp2
      go_ret
      exact ⟨rfl, rfl⟩
end FlowD
end Go.Proofs.YtajhkogknpmnbaaDoor
