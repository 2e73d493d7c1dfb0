/- A new world of channels; reading. -/
import Derived.Test.YteohgacblilfmaaWorld
import Derived.Test.YteohgacblilfmaaLoadAll
import Derived.Deep.RegionHeld3
namespace Go.Proofs.Yteohgacblilfmaa
open Go.RowKit ObjM Shell
namespace WorldD
open LabelM LabelD TraceD

theorem lt8 {j : Nat} (h : j < 8) : j = 0 ∨ j = 1 ∨ j = 2 ∨ j = 3 ∨ j = 4 ∨ j = 5 ∨ j = 6 ∨ j = 7 := by omega
def masksV (ms : List Nat) : List Value := ms.map fun (m : Nat) => Value.int .u64 (m : Int)
def inV (a : Nat → Option Addr) (z : Nat → List Int) (q : Nat → Nat) : List Value :=
  [.slice (a 0) (z 0).length (q 0), .slice (a 1) (z 1).length (q 1), .slice (a 2) (z 2).length (q 2), .slice (a 3) (z 3).length (q 3), .slice (a 4) (z 4).length (q 4), .slice (a 5) (z 5).length (q 5), .slice (a 6) (z 6).length (q 6), .slice (a 7) (z 7).length (q 7)]
theorem inV_at (a : Nat → Option Addr) (z : Nat → List Int) (q : Nat → Nat) {j : Nat} (h : j < 8) : (inV a z q)[j]? = some (.slice (a j) (z j).length (q j)) := by
  rcases lt8 h with rfl | rfl | rfl | rfl | rfl | rfl | rfl | rfl <;> rfl
theorem own_slice {w : World} {base : Nat} {e : TypeId} {size : Nat} {v : Value} {n : Nat} {xs : List Value} (h : w.ownsRow base e size v n xs) : ∃ av cap, v = .slice av n cap := by
  rcases own_shape h with ⟨rfl, rfl, _⟩ | ⟨g, cap, cs, rfl, _⟩
  · exact ⟨none, 0, rfl⟩
  · exact ⟨_, _, rfl⟩
theorem cell_ne {w : World} {C b i j : Nat} {v : Value} (h : C ≠ b) : (w.setCell ⟨C, i, none⟩ v).cell? ⟨b, j, none⟩ = w.cell? ⟨b, j, none⟩ := by
  simp [World.cell?, Below.heap_setCell w ⟨C, i, none⟩ v b (Ne.symm h)]
theorem infoCh8 : (Try.prog.info? 57).map (fun i => i.size) = some 24 := by kernel_rfl
theorem aggCh8 (w : World) : (isAgg 57).run Try.prog w = .ok true w := by kernel_rfl
theorem sizeCh8 (w : World) : (sizeOf 57).run Try.prog w = .ok 24 w := by kernel_rfl
/-- What was set of the channels so far: k of them. -/
def NewSt (w : World) (B : Nat) (m : Nat → Nat) (z : Nat → List Int) (k : Nat) (l : List Ch) : Prop :=
  l.length = 8 ∧ ∀ (j : Nat) c, l[j]? = some c → (k ≤ j ∧ c = ⟨0, .slice none 0 0, [], 0⟩) ∨ (j < k ∧ c.m = m j ∧ c.xs = z j ∧ c.n = 0 ∧ w.ownsRow B 2 1 c.v c.xs.length (rowI c.xs))
theorem NewSt.keeps {w w' : World} {B : Nat} {m : Nat → Nat} {z : Nat → List Int} {k : Nat} {l : List Ch} {ts : List TypeId} (h : NewSt w B m z k l) (kk : KeepsT ts w w') (ht : 2 ∉ ts) : NewSt w' B m z k l :=
  ⟨h.1, fun j c hj => (h.2 j c hj).imp id fun ⟨h1, h2, h3, h4, h5⟩ => ⟨h1, h2, h3, h4, own_keepsT h5 kk ht⟩⟩
theorem NewSt.set {w : World} {B : Nat} {m : Nat → Nat} {z : Nat → List Int} {k : Nat} {l : List Ch} (h : NewSt w B m z k l) (hk : k < 8) {v : Value} (hv : w.ownsRow B 2 1 v (z k).length (rowI (z k))) : NewSt w B m z (k + 1) (l.set k ⟨m k, v, z k, 0⟩) := by
  refine ⟨by simpa using h.1, fun j c hj => ?_⟩
  by_cases e : k = j
  · subst e
    rw [List.getElem?_set_self (by rw [h.1]; exact hk)] at hj
    simp at hj
    subst hj
    exact .inr ⟨by omega, rfl, rfl, rfl, hv⟩
  · rw [List.getElem?_set_ne e] at hj
    rcases h.2 j c hj with ⟨h1, h2⟩ | ⟨h1, h2⟩
    · exact .inl ⟨by omega, h2⟩
    · exact .inr ⟨by omega, h2⟩

def NewDid (w : World) (ms : List Nat) (z : Nat → List Int) (e : Ending) (w' : World) : Prop :=
  ∃ G l, e = .returned (.pointer (some ⟨G, 0, none⟩)) ∧ IsW w' w.heap.size G l [] ∧ (∀ (j : Nat) (c : Ch), l[j]? = some c → c.m = ms.getD j 0 ∧ c.xs = z j ∧ c.n = 0) ∧ Below w.heap.size w w'
set_option maxRecDepth 100000 in
set_option maxHeartbeats 4000000 in
theorem new_any (m0 m1 m2 m3 m4 m5 m6 m7 : Nat) (hms : ∀ j, [m0, m1, m2, m3, m4, m5, m6, m7].getD j 0 < M64) (a : Nat → Option Addr) (z : Nat → List Int) (q : Nat → Nat) (hzl : ∀ j, (z j).length ≤ 17592186044416) (w : World)
    (hz : ∀ j, j < 8 → IntsAt w .i64 (.slice (a j) (z j).length (q j)) (z j)) :
    Calls Try.prog 8 #[.agg #[.int .u64 (m0 : Int), .int .u64 (m1 : Int), .int .u64 (m2 : Int), .int .u64 (m3 : Int), .int .u64 (m4 : Int), .int .u64 (m5 : Int), .int .u64 (m6 : Int), .int .u64 (m7 : Int)], .agg (inV a z q).toArray] w
      (NewDid w [m0, m1, m2, m3, m4, m5, m6, m7] z) := by
  have HZ := Lib.hid (fun (W : World) (hb : Below w.heap.size w W) j hj => cloneI_any _ (z j) (hzl j) W ((hz j hj).below hb (Nat.le_refl _)))
  have hM := ((Has.new w 24 (masksV [m0, m1, m2, m3, m4, m5, m6, m7])).keepsT ((KeepsT.refl [] _).alloc (.cells (inV a z q).toArray 27)) (by simp))
  have hI := Has.new (w.alloc (.cells (masksV [m0, m1, m2, m3, m4, m5, m6, m7]).toArray 24)) 27 (inV a z q)
  simp only [World.size_alloc] at hI
  simp only [masksV, List.map_cons, List.map_nil] at hM hI
  obtain ⟨ia, hia⟩ : ∃ x, inV a z q = x := ⟨_, rfl⟩
  have HIA := Lib.hid hia
  simp only [hia] at hM hI ⊢
  clear hia hz
  go_enter Try.func8, Try.ntmps8
  go_wp2
  have hC := Has.new ((w.alloc (.cells #[.int .u64 (m0 : Int), .int .u64 (m1 : Int), .int .u64 (m2 : Int), .int .u64 (m3 : Int), .int .u64 (m4 : Int), .int .u64 (m5 : Int), .int .u64 (m6 : Int), .int .u64 (m7 : Int)] 24)).alloc (.cells ia.toArray 27)) 57 (rowC (List.replicate 8 ⟨0, .slice none 0 0, [], 0⟩))
  simp only [World.size_alloc] at hC
  have hM1 := hM.keepsT ((KeepsT.refl [] _).alloc (.cells (rowC (List.replicate 8 ⟨0, .slice none 0 0, [], 0⟩)).toArray 57)) (by simp)
  have hI1 := hI.keepsT ((KeepsT.refl [] _).alloc (.cells (rowC (List.replicate 8 ⟨0, .slice none 0 0, [], 0⟩)).toArray 57)) (by simp)
  have hB1 : Below w.heap.size w (((w.alloc (.cells #[.int .u64 (m0 : Int), .int .u64 (m1 : Int), .int .u64 (m2 : Int), .int .u64 (m3 : Int), .int .u64 (m4 : Int), .int .u64 (m5 : Int), .int .u64 (m6 : Int), .int .u64 (m7 : Int)] 24)).alloc (.cells ia.toArray 27)).alloc (.cells (rowC (List.replicate 8 ⟨0, .slice none 0 0, [], 0⟩)).toArray 57)) := by
    repeat (first | exact Below.refl _ _ | refine Below.alloc ?_ (by simp; try omega) _)
  clear hM hI
  change Code.wp _ _ _ _ (World.alloc _ (.cells (rowC (List.replicate 8 ⟨0, .slice none 0 0, [], 0⟩)).toArray 57))
  generalize World.alloc _ (.cells (rowC (List.replicate 8 ⟨0, .slice none 0 0, [], 0⟩)).toArray 57) = W1 at hC hM1 hI1 hB1 ⊢
  have hN0 : NewSt W1 w.heap.size (fun j => [m0, m1, m2, m3, m4, m5, m6, m7].getD j 0) z 0 (List.replicate 8 ⟨0, .slice none 0 0, [], 0⟩) := ⟨by simp, fun j c hj => .inl ⟨by omega, by
    rw [List.getElem?_replicate] at hj
    split at hj
    · simpa using hj.symm
    · cases hj⟩⟩
  have hMc : ∀ j, j < 8 → ∀ W', Has W' w.heap.size 24 [.int .u64 (m0 : Int), .int .u64 (m1 : Int), .int .u64 (m2 : Int), .int .u64 (m3 : Int), .int .u64 (m4 : Int), .int .u64 (m5 : Int), .int .u64 (m6 : Int), .int .u64 (m7 : Int)] → W'.cell? ⟨w.heap.size, j, none⟩ = some (.int .u64 (([m0, m1, m2, m3, m4, m5, m6, m7].getD j 0 : Nat) : Int)) := by
    intro j hj W' h
    rw [h.cell j]
    rcases lt8 hj with rfl | rfl | rfl | rfl | rfl | rfl | rfl | rfl <;> rfl
  have HMC := Lib.hid hMc
  obtain ⟨mv, hmv⟩ : ∃ x, [Value.int .u64 (m0 : Int), .int .u64 (m1 : Int), .int .u64 (m2 : Int), .int .u64 (m3 : Int), .int .u64 (m4 : Int), .int .u64 (m5 : Int), .int .u64 (m6 : Int), .int .u64 (m7 : Int)] = x := ⟨_, rfl⟩
  obtain ⟨ms, hms'⟩ : ∃ x, [m0, m1, m2, m3, m4, m5, m6, m7] = x := ⟨_, rfl⟩
  rw [hmv] at hM1 HMC
  rw [hms'] at hN0 HMC hms
  have HM1 := Lib.hid hM1
  have HI1 := Lib.hid hI1
  have HMS := Lib.hid hms
  have HMS2 := Lib.hid hms'
  have HB1 := Lib.hid hB1
  clear hMc hms' hmv hM1 hI1 hB1 hms
  go_loopw [7] (fun i wr => ∃ (k : Nat) (l : List Ch), i = .int .i64 k ∧ k ≤ 8 ∧ Hid (Has wr (w.heap.size + 1 + 1) 57 (rowC l)) ∧ Hid (NewSt wr w.heap.size (fun j => ms.getD j 0) z k l) ∧ Hid (KeepsT [57] W1 wr) ∧ Hid (Below w.heap.size w wr)) (fun i _ => 8 - (intOf i).toNat)
  case atStart => exact ⟨0, _, rfl, by omega, Lib.hid hC, Lib.hid hN0, Lib.hid (KeepsT.refl _ _), HB1⟩
  case round =>
    obtain ⟨k, l, rfl, hk, HC, HN, HK, HB⟩ := hrel
    clear hN0 hC
    by_cases hk8 : k < 8
    · have hk8i : (k : Int) < 8 := by omega
      have hk0i : (0 : Int) ≤ (k : Int) := by omega
      have hl0 := (HM1.out.keepsT HK.out (by simp)).lt
      have hl1 := (HI1.out.keepsT HK.out (by simp)).lt
      have hl2 := HC.out.lt
      have c0 := HMC.out k hk8 wr (HM1.out.keepsT HK.out (by simp))
      have c1 : wr.cell? ⟨w.heap.size + 1, k, none⟩ = some (.slice (a k) (z k).length (q k)) := by
        rw [(HI1.out.keepsT HK.out (by simp)).cell k, ← HIA.out]
        exact inV_at a z q hk8
      obtain ⟨mk, hmk⟩ : ∃ x, ms.getD k 0 = x := ⟨_, rfl⟩
      rw [hmk] at c0
      have HMK := Lib.hid hmk
      clear hmk
      have hck : l[k]? = some ⟨0, .slice none 0 0, [], 0⟩ := by
        have e := List.getElem?_eq_getElem (show k < l.length by rw [HN.out.1]; exact hk8)
        rcases HN.out.2 k _ e with ⟨_, h⟩ | ⟨h, _⟩
        · rw [e, h]
        · omega
      have g0 := rowC_at l k _ hck 0 (by omega)
      have g1 := rowC_at l k _ hck 1 (by omega)
      have g2 := rowC_at l k _ hck 2 (by omega)
      simp [Ch.cells] at g0 g1 g2
      have HG := Lib.hid (And.intro g0 (And.intro g1 g2))
      clear g0 g1 g2 hck
      have HZk := fun (W : World) (hb : Below w.heap.size w W) => Lib.hid (HZ.out W hb k hk8)
      go_wp2
      go_region_held3 (fun W' => W'.cell? ⟨w.heap.size, k, none⟩ = some (.int .u64 (mk : Int)) ∧ W'.cell? ⟨w.heap.size + 1, k, none⟩ = some (.slice (a k) (z k).length (q k))) (first | assumption | exact ⟨(cell_ne (by omega)).trans ((cell_ne (by omega)).trans ((cell_ne (by omega)).trans s0)), (cell_ne (by omega)).trans ((cell_ne (by omega)).trans ((cell_ne (by omega)).trans s1))⟩ | go_keep)
        (first
          | (go_at_call 17
             refine ((HZk _ (HB.out.drew)).out).mono ?_
             rintro e w5 ⟨u, rfl, hu, hb5⟩
             obtain ⟨av, cap, rfl⟩ := own_slice hu
             have q5 : Below wr.heap.size wr w5 := ((Below.refl _ _).drew).trans (hb5.mono (by simp))
             have s0 := (q5.cell (p := ⟨w.heap.size, k, none⟩) hl0).trans c0
             have s1 := (q5.cell (p := ⟨w.heap.size + 1, k, none⟩) hl1).trans c1
             have hC5 := HC.out.keepsT (KeepsT.below q5 []) (by simp)
             have hl5 := hC5.lt
             have t0 := (hC5.cell (k * 3)).trans HG.out.1
             have t1 := (hC5.cell (k * 3 + 1)).trans HG.out.2.1
             have t2 := (hC5.cell (k * 3 + 2)).trans HG.out.2.2
             have f0 := hC5.frozen (k * 3)
             have f1 := hC5.frozen (k * 3 + 1)
             have f2 := hC5.frozen (k * 3 + 2)
             have HC5 := Lib.hid hC5
             clear hC5
             clear hb5))
      all_goals
        have hC6 : Has (((w5.setCell ⟨w.heap.size + 1 + 1, k * 3, none⟩ (.int .u64 (mk : Int))).setCell ⟨w.heap.size + 1 + 1, k * 3 + 1, none⟩ (.slice av (z k).length cap)).setCell ⟨w.heap.size + 1 + 1, k * 3 + 2, none⟩ (.int .i64 0)) (w.heap.size + 1 + 1) 57 (rowC (l.set k ⟨mk, .slice av (z k).length cap, z k, 0⟩)) := by
          rw [← rowC_set l k ⟨mk, .slice av (z k).length cap, z k, 0⟩ (by rw [HN.out.1]; exact hk8)]
          exact ((HC5.out.set _ _).set _ _).set _ _
        have hK6 : KeepsT [57] w5 (((w5.setCell ⟨w.heap.size + 1 + 1, k * 3, none⟩ (.int .u64 (mk : Int))).setCell ⟨w.heap.size + 1 + 1, k * 3 + 1, none⟩ (.slice av (z k).length cap)).setCell ⟨w.heap.size + 1 + 1, k * 3 + 2, none⟩ (.int .i64 0)) :=
          (((KeepsT.refl _ w5).set HC5.out (.inl (by simp)) _ _).set (HC5.out.set _ _) (.inl (by simp)) _ _).set ((HC5.out.set _ _).set _ _) (.inl (by simp)) _ _
        have hB6 : Below w.heap.size w (((w5.setCell ⟨w.heap.size + 1 + 1, k * 3, none⟩ (.int .u64 (mk : Int))).setCell ⟨w.heap.size + 1 + 1, k * 3 + 1, none⟩ (.slice av (z k).length cap)).setCell ⟨w.heap.size + 1 + 1, k * 3 + 2, none⟩ (.int .i64 0)) :=
          ((((HB.out.trans (q5.mono HB.out.size)).setCell (p := ⟨w.heap.size + 1 + 1, k * 3, none⟩) (by simp; omega) _).setCell (p := ⟨w.heap.size + 1 + 1, k * 3 + 1, none⟩) (by simp; omega) _).setCell (p := ⟨w.heap.size + 1 + 1, k * 3 + 2, none⟩) (by simp; omega) _)
        have hN6 : NewSt (((w5.setCell ⟨w.heap.size + 1 + 1, k * 3, none⟩ (.int .u64 (mk : Int))).setCell ⟨w.heap.size + 1 + 1, k * 3 + 1, none⟩ (.slice av (z k).length cap)).setCell ⟨w.heap.size + 1 + 1, k * 3 + 2, none⟩ (.int .i64 0)) w.heap.size (fun j => ms.getD j 0) z (k + 1) (l.set k ⟨mk, .slice av (z k).length cap, z k, 0⟩) := by
          have h := ((HN.out.keeps (KeepsT.below q5 []) (by simp)).keeps hK6 (by simp)).set hk8 (own_keepsT (own_base hu HB.out.size) hK6 (by simp))
          simp only [HMK.out] at h
          exact h
        have H6C := Lib.hid hC6
        have H6K := Lib.hid (HK.out.trans ((KeepsT.below q5 _).trans hK6 (fun _ h => h)) (fun _ h => h))
        have H6B := Lib.hid hB6
        have H6N := Lib.hid hN6
        clear hC6 hK6 hB6 hN6 hu q5 t0 t1 t2 f0 f1 f2 s0 s1
        generalize World.setCell _ _ _ = w6 at H6C H6K H6B H6N ⊢
        go_wp2
        go_roundw
        case rel => exact ⟨k + 1, _, by go_num, by omega, H6C, H6N, H6K, H6B⟩
        case measure => simp [intOf]; omega
    · obtain rfl : k = 8 := by omega
      have hlt2 : ¬ ((8 : Nat) : Int) < 8 := by omega
      have hlen := HN.out.1
      match l, hlen, HC, HN with
      | [d0, d1, d2, d3, d4, d5, d6, d7], _, HC, HN =>
        obtain ⟨_, hm0, hx0, hn0, ho0⟩ := (HN.out.2 0 d0 rfl).resolve_left (by omega)
        obtain ⟨av0, cp0, hv0⟩ := own_slice ho0
        obtain ⟨_, hm1, hx1, hn1, ho1⟩ := (HN.out.2 1 d1 rfl).resolve_left (by omega)
        obtain ⟨av1, cp1, hv1⟩ := own_slice ho1
        obtain ⟨_, hm2, hx2, hn2, ho2⟩ := (HN.out.2 2 d2 rfl).resolve_left (by omega)
        obtain ⟨av2, cp2, hv2⟩ := own_slice ho2
        obtain ⟨_, hm3, hx3, hn3, ho3⟩ := (HN.out.2 3 d3 rfl).resolve_left (by omega)
        obtain ⟨av3, cp3, hv3⟩ := own_slice ho3
        obtain ⟨_, hm4, hx4, hn4, ho4⟩ := (HN.out.2 4 d4 rfl).resolve_left (by omega)
        obtain ⟨av4, cp4, hv4⟩ := own_slice ho4
        obtain ⟨_, hm5, hx5, hn5, ho5⟩ := (HN.out.2 5 d5 rfl).resolve_left (by omega)
        obtain ⟨av5, cp5, hv5⟩ := own_slice ho5
        obtain ⟨_, hm6, hx6, hn6, ho6⟩ := (HN.out.2 6 d6 rfl).resolve_left (by omega)
        obtain ⟨av6, cp6, hv6⟩ := own_slice ho6
        obtain ⟨_, hm7, hx7, hn7, ho7⟩ := (HN.out.2 7 d7 rfl).resolve_left (by omega)
        obtain ⟨av7, cp7, hv7⟩ := own_slice ho7
        have HL : Hid (∀ (j : Nat) c, [d0, d1, d2, d3, d4, d5, d6, d7][j]? = some c → c.m = ms.getD j 0 ∧ c.xs = z j ∧ c.n = 0 ∧ ChOk wr w.heap.size c) := Lib.hid (fun j c hj => by
          have hj8 : j < 8 := by have := (List.getElem?_eq_some_iff.1 hj).1; simpa using this
          obtain ⟨_, hm, hx, hn, ho⟩ := (HN.out.2 j c hj).resolve_left (by omega)
          exact ⟨hm, hx, hn, by rw [hm]; exact HMS.out j, by rw [hn]; omega, by rw [hx]; exact hzl j, ho⟩)
        obtain ⟨dm0, dv0, dx0, dn0⟩ := d0
        simp only at hm0 hx0 hn0 hv0
        subst hv0 hn0
        clear hm0 hx0 ho0
        obtain ⟨dm1, dv1, dx1, dn1⟩ := d1
        simp only at hm1 hx1 hn1 hv1
        subst hv1 hn1
        clear hm1 hx1 ho1
        obtain ⟨dm2, dv2, dx2, dn2⟩ := d2
        simp only at hm2 hx2 hn2 hv2
        subst hv2 hn2
        clear hm2 hx2 ho2
        obtain ⟨dm3, dv3, dx3, dn3⟩ := d3
        simp only at hm3 hx3 hn3 hv3
        subst hv3 hn3
        clear hm3 hx3 ho3
        obtain ⟨dm4, dv4, dx4, dn4⟩ := d4
        simp only at hm4 hx4 hn4 hv4
        subst hv4 hn4
        clear hm4 hx4 ho4
        obtain ⟨dm5, dv5, dx5, dn5⟩ := d5
        simp only at hm5 hx5 hn5 hv5
        subst hv5 hn5
        clear hm5 hx5 ho5
        obtain ⟨dm6, dv6, dx6, dn6⟩ := d6
        simp only at hm6 hx6 hn6 hv6
        subst hv6 hn6
        clear hm6 hx6 ho6
        obtain ⟨dm7, dv7, dx7, dn7⟩ := d7
        simp only at hm7 hx7 hn7 hv7
        subst hv7 hn7
        clear hm7 hx7 ho7
        have hC := HC.out
        have hl2 := hC.lt
        have hld := run_load_all (T := 57) (i0 := 0) (bs := []) (ds := []) 24 (aggCh8 wr) (sizeCh8 wr) (by simpa using hC) rfl (by rw [rowC_len]; rfl)
        simp only [rowC, Ch.cells, List.flatMap_cons, List.flatMap_nil, List.cons_append, List.nil_append] at hld
        have HLD := Lib.hid hld
        have HX := Lib.hid (Has.new wr 60 (rowC [⟨dm0, .slice av0 dx0.length cp0, dx0, 0⟩, ⟨dm1, .slice av1 dx1.length cp1, dx1, 0⟩, ⟨dm2, .slice av2 dx2.length cp2, dx2, 0⟩, ⟨dm3, .slice av3 dx3.length cp3, dx3, 0⟩, ⟨dm4, .slice av4 dx4.length cp4, dx4, 0⟩, ⟨dm5, .slice av5 dx5.length cp5, dx5, 0⟩, ⟨dm6, .slice av6 dx6.length cp6, dx6, 0⟩, ⟨dm7, .slice av7 dx7.length cp7, dx7, 0⟩] ++ [.slice none 0 0]))
        clear hC HC HN hzl hld
        go_wp2_with (refine wpList_load_run rfl (.tmp 5) 57 rfl _ _ rfl HLD.out ?_)
        go_ret
        refine ⟨_, _, rfl, ⟨_, HX.out, World.ownsRow_nil _ _ _ _, HB.out.size, rfl, fun c hc => ?_⟩, fun j c hj => ?_, HB.out.alloc HB.out.size _⟩
        · obtain ⟨j, hj⟩ := List.getElem?_of_mem hc
          exact ((HL.out j c hj).2.2.2).keeps ((KeepsT.refl [] wr).alloc _) (by simp)
        · rw [HMS2.out]
          exact ⟨(HL.out j c hj).1, (HL.out j c hj).2.1, (HL.out j c hj).2.2.1⟩
end WorldD
end Go.Proofs.Yteohgacblilfmaa
