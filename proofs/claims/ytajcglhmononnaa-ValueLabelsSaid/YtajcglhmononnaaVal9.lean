/- Do, where something goes wrong. -/
import Derived.Test.YtajcglhmononnaaVal7
import Derived.Test.YtajcglhmononnaaVal8
import Derived.Test.YtajcglhmononnaaDies
namespace Go.Proofs.Ytajcglhmononnaa
open Go.RowKit ObjM
namespace ValD
open NumM LabelM LabelD NumD

set_option maxRecDepth 100000 in
set_option maxHeartbeats 4000000 in
theorem do_dies (op : Int) (a b : V) (ha : a.l < M64) (hb : b.l < M64) (why : ByteArray) (hans : ∀ W, Calls Try.prog 28 #[.int .i64 op, a.agg, b.agg] W fun e w' => e = .panicked (pan why) ∧ Below W.heap.size W w') (w : World) :
    Calls Try.prog 10 #[.int .i64 op, a.agg, b.agg] w fun e w' => e = .returned (.tuple #[(⟨0, 0, ⟨#[]⟩, a.l ||| b.l⟩ : V).agg, .string why]) ∧ Below w.heap.size w w' := by
  have HA := fun W => Lib.hid (hans W)
  have HJ2 := fun W n c0 c1 => Lib.hid (join2c a.l b.l ha hb W n c0 c1)
  obtain ⟨ak, an, sa, al⟩ := a
  obtain ⟨bk, bn, sb, bl⟩ := b
  simp only at HJ2
  obtain ⟨x, hx⟩ : ∃ x, al ||| bl = x := ⟨_, rfl⟩
  simp only [hx] at HJ2 ⊢
  clear hx hans
  simp only [V.agg] at HA ⊢
  have hmf : ∀ (fn : Fn) (first cap : Array Value) (w : World), (Instr.makeFunc fn first cap).run Try.prog w = .ok (.func fn first cap) w := fun _ _ _ _ => rfl
  go_enter_defers Try.func10, Try.ntmps10
  go_wp2_with fail
  with_reducible refine ((HJ2 _ _ (by go_simp) (by go_simp)).out).mono ?_
  rintro e w1 ⟨rfl, hw⟩
  subst hw
  go_wp2
  obtain ⟨hb0, hb1, hb2, hb3, hb5, hBW⟩ := six_blocks w [.int .i64 ak, .int .i64 an, .string sa, .int .u64 (al : Int)] [.int .i64 bk, .int .i64 bn, .string sb, .int .u64 (bl : Int)] [.int .i64 0, .int .i64 0, .string ⟨#[]⟩, .int .u64 0] [.string ⟨#[]⟩] [.int .u64 (al : Int), .int .u64 (bl : Int)] [.int .u64 (x : Int)]
    25 25 25 9 23 23 _ rfl
  change Code.wp _ _ _ _ (World.alloc (World.alloc (World.alloc (World.alloc (World.alloc (World.alloc w _) _) _) _) _) _)
  generalize World.alloc (World.alloc (World.alloc (World.alloc (World.alloc (World.alloc w _) _) _) _) _) _ = W0 at hb0 hb1 hb2 hb3 hb5 hBW ⊢
  have hlt := hb5.lt
  have hlt2 := hb2.lt
  have hlt3 := hb3.lt
  have hBW2 := Lib.hid hBW
  clear hBW
  obtain ⟨R0, hR0⟩ : ∃ R0, w.heap.size = R0 := ⟨_, rfl⟩
  rw [hR0] at hb0 hb1 hb2 hb3 hb5 hlt hlt2 hlt3 hBW2 ⊢
  have hB2 := Lib.hid hb2
  have hB3 := Lib.hid hb3
  have hB5 := Lib.hid hb5
  have hB0 := Lib.hid hb0
  have hB1 := Lib.hid hb1
  have s0 := hb5.cell 0
  have g0 := hb2.cell 0
  have g1 := hb2.cell 1
  have g2 := hb2.cell 2
  have g3 := hb2.cell 3
  have g9 := hb3.cell 0
  have z0 := hb2.frozen 0
  have z1 := hb2.frozen 1
  have z2 := hb2.frozen 2
  have z3 := hb2.frozen 3
  have z9 := hb3.frozen 0
  have a0 := hb0.cell 0
  have a1 := hb0.cell 1
  have a2 := hb0.cell 2
  have a3 := hb0.cell 3
  have d0 := hb1.cell 0
  have d1 := hb1.cell 1
  have d2 := hb1.cell 2
  have d3 := hb1.cell 3
  simp at s0 g0 g1 g2 g3 g9 a0 a1 a2 a3 d0 d1 d2 d3
  clear hb0 hb1 hb2 hb3 hb5
  refine DiesD.wp_region_dies2 (by kernel_rfl) [6, 7] (by simp) (fun W' => Has W' R0 25 [.int .i64 ak, .int .i64 an, .string sa, .int .u64 (al : Int)] ∧ Has W' (R0 + 1) 25 [.int .i64 bk, .int .i64 bn, .string sb, .int .u64 (bl : Int)] ∧ Has W' (R0 + 1 + 1 + 1 + 1 + 1) 23 [.int .u64 (x : Int)])
    (fun c W' => c = pan why ∧ Below W0.heap.size W0 W') ?hS ?hQ ?h
  case hS => exact ⟨hB0.out, hB1.out, hB5.out⟩
  case hQ =>
    rintro c b W' ⟨rfl, hb⟩ hd hk
    have k6 := hk 6 (by simp)
    have k7 := hk 7 (by simp)
    simp at k6 k7 hd
    change Leaves _ _ b.tmps _ b.defers (.panicking (pan why)) W'
    rw [hd]
    refine leaves_cons (f := 26) (args := #[.pointer (some ⟨R0 + 1 + 1 + 1 + 1 + 1, 0, none⟩), .pointer (some ⟨R0 + 1 + 1, 0, none⟩), .pointer (some ⟨R0 + 1 + 1 + 1, 0, none⟩)]) (by simp) (by simp [go_sem]) ?_
    refine (catch_panicking (R0 + 1 + 1 + 1 + 1 + 1) (R0 + 1 + 1) (R0 + 1 + 1 + 1) R0 why x _ _ _ _ _ W' (hB5.out.below hb hlt) (hB2.out.below hb hlt2) (hB3.out.below hb hlt3) (by omega)).mono ?_
    rintro e u' w'' ⟨rfl, rfl, hb2, hq, hr⟩
    have q0 := hq.cell 0
    have q1 := hq.cell 1
    have q2 := hq.cell 2
    have q3 := hq.cell 3
    have q4 := hr.cell 0
    simp at q0 q1 q2 q3 q4
    simp [Leaves, settle, results, Try.results10, go_sem, k6, k7, q0, q1, q2, q3, q4]
    rw [hR0]
    exact hBW2.out.trans ((hb.mono (by omega)).trans hb2)
  case h =>
    intro hS
    refine wpAnyH_take (i := 0) (oi := { dst := some 16, op := Op.move (.tmp 0), type := _, pos := _, after := _, guard := _ }) (v := .int .i64 op) rfl (by kernel_rfl) (by kernel_rfl) (by kernel_rfl) (fun _ _ _ h => h) (Or.inl ⟨by rfl, ?_⟩) (by assumption) ?_
    · intro w hSw
      go_simp
    simp only [Act.put, List.setIfInBounds_toArray, List.set_cons_zero, List.set_cons_succ]
    refine wpAnyH_take (i := 1) (oi := { dst := some 17, op := Op.load 25 (.tmp 4), type := _, pos := _, after := _, guard := _ }) (v := .agg #[.int .i64 ak, .int .i64 an, .string sa, .int .u64 (al : Int)]) rfl (by kernel_rfl) (by kernel_rfl) (by kernel_rfl) (fun _ _ _ h => h) (Or.inl ⟨by rfl, ?_⟩) (by assumption) ?_
    · rintro w ⟨h0, -, -⟩
      have c0 := h0.cell 0
      have c1 := h0.cell 1
      have c2 := h0.cell 2
      have c3 := h0.cell 3
      simp at c0 c1 c2 c3
      go_simp
    simp only [Act.put, List.setIfInBounds_toArray, List.set_cons_zero, List.set_cons_succ]
    refine wpAnyH_take (i := 2) (oi := { dst := some 18, op := Op.load 25 (.tmp 5), type := _, pos := _, after := _, guard := _ }) (v := .agg #[.int .i64 bk, .int .i64 bn, .string sb, .int .u64 (bl : Int)]) rfl (by kernel_rfl) (by kernel_rfl) (by kernel_rfl) (fun _ _ _ h => h) (Or.inl ⟨by rfl, ?_⟩) (by assumption) ?_
    · rintro w ⟨-, h0, -⟩
      have c0 := h0.cell 0
      have c1 := h0.cell 1
      have c2 := h0.cell 2
      have c3 := h0.cell 3
      simp at c0 c1 c2 c3
      go_simp
    simp only [Act.put, List.setIfInBounds_toArray, List.set_cons_zero, List.set_cons_succ]
    refine wpAnyH_take (i := 4) (oi := { dst := some 20, op := Op.load 23 (.tmp 8), type := _, pos := _, after := _, guard := _ }) (v := .int .u64 (x : Int)) rfl (by kernel_rfl) (by kernel_rfl) (by kernel_rfl) (fun _ _ _ h => h) (Or.inl ⟨by rfl, ?_⟩) (by assumption) ?_
    · rintro w ⟨-, -, h0⟩
      have c0 := h0.cell 0
      simp at c0
      go_simp
    simp only [Act.put, List.setIfInBounds_toArray, List.set_cons_zero, List.set_cons_succ]
    refine wpAnyH_ready (rs := [3, 5]) (by kernel_rfl) (by simp) ?_
    refine AllReadyH.cons (o := { dst := some 19, op := Op.call { callee := .value (.func 28), args := #[.tmp 16, .tmp 17, .tmp 18], argTypes := _ }, type := _, pos := _, after := _, guard := _ }) rfl (fun K hK => ?_) ?_
    · go_simp
      with_reducible refine ((HA _).out).mono ?_
      rintro e w1 ⟨rfl, hb1⟩
      exact ⟨rfl, rfl, (Below.refl _ _).drew.trans hb1⟩
    refine AllReadyH.cons (o := { dst := some 21, op := Op.buildSlice 35 1 #[(0, .tmp 20)], type := _, pos := _, after := _, guard := _ }) rfl (fun K hK => ?_) AllReadyH.nil
    go_simp
    refine hK.out _ _ ?_ (fun hHeld => ?_)
    · exact ⟨hS.1.keepsT ((KeepsT.refl [] _).alloc _) (by simp), hS.2.1.keepsT ((KeepsT.refl [] _).alloc _) (by simp), hS.2.2.keepsT ((KeepsT.refl [] _).alloc _) (by simp)⟩
    clear hK K
    refine wpAnyH_ready (rs := [3]) (by kernel_rfl) (by simp) ?_
    refine AllReadyH.cons (o := { dst := some 19, op := Op.call { callee := .value (.func 28), args := #[.tmp 16, .tmp 17, .tmp 18], argTypes := _ }, type := _, pos := _, after := _, guard := _ }) rfl (fun K hK => ?_) AllReadyH.nil
    go_simp
    with_reducible refine ((HA _).out).mono ?_
    rintro e w1 ⟨rfl, hb1⟩
    exact ⟨rfl, rfl, ((Below.refl _ _).drew.alloc (Nat.le_refl _) _).trans (hb1.mono (by simp))⟩
end ValD
end Go.Proofs.Ytajcglhmononnaa
