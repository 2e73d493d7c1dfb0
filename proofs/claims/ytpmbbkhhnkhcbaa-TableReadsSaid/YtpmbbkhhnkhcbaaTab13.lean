/- The document's table: keys and where they stand. -/
import Derived.Test.YtpmbbkhhnkhcbaaTab12
namespace Go.Proofs.Ytpmbbkhhnkhcbaa
open Go.RowKit ObjM Go.Maps
namespace TabD
open LabelM LabelD ValD

def RefKeyIs (w : World) (b : Bool) (e : Ending) (w' : World) : Prop := e = .returned (.bool b) ∧ Below w.heap.size w w'
set_option maxRecDepth 100000 in
set_option maxHeartbeats 1000000 in
theorem refkey_any (v : V) (w : World) : Calls Try.prog 44 #[v.agg] w (RefKeyIs w (keyB v)) := by
  have HC := fun W => Lib.hid (refCheck_any v W)
  obtain ⟨c, hc⟩ : ∃ c, checkB v = c := ⟨_, rfl⟩
  simp only [hc] at HC
  have hcase : (v.k = 2 ∧ keyB v = c) ∨ (v.k = 3 ∧ keyB v = c) ∨ ((v.k == 2) = false ∧ (v.k == 3) = false ∧ keyB v = false) := by
    unfold keyB
    rw [hc]
    by_cases h2 : v.k = 2
    · exact .inl ⟨h2, by simp [h2]⟩
    · by_cases h3 : v.k = 3
      · exact .inr (.inl ⟨h3, by simp [h3]⟩)
      · exact .inr (.inr ⟨by simpa using h2, by simpa using h3, by simp [h2, h3]⟩)
  obtain ⟨kb, hkb⟩ : ∃ c, keyB v = c := ⟨_, rfl⟩
  rw [hkb] at hcase ⊢
  clear hc hkb
  obtain ⟨vk, vn, vs, vl⟩ := v
  simp only [V.agg] at HC hcase ⊢
  have HA := Lib.hid ((Below.refl w.heap.size w).alloc (Nat.le_refl _) (.cells #[.int .i64 vk, .int .i64 vn, .string vs, .int .u64 (vl : Int)] 35))
  rcases hcase with ⟨rfl, rfl⟩ | ⟨rfl, rfl⟩ | ⟨h2, h3, rfl⟩
  · go_enter Try.func44, Try.ntmps44
    go_wp2_with fail
    with_reducible refine ((HC _).out).mono ?_
    rintro e w1 ⟨rfl, hb1⟩
    have HB := Lib.hid (HA.out.trans (hb1.mono (by simp)))
    clear hb1
    cases kb
    all_goals
      go_wp2
      exact bodyPost_ret (v := .bool _) (by simp [results, Try.results44, go_sem]; first | rfl | done) rfl ⟨rfl, HB.out⟩
  · go_enter Try.func44, Try.ntmps44
    go_wp2_with fail
    with_reducible refine ((HC _).out).mono ?_
    rintro e w1 ⟨rfl, hb1⟩
    have HB := Lib.hid (HA.out.trans (hb1.mono (by simp)))
    clear hb1
    cases kb
    all_goals
      go_wp2
      exact bodyPost_ret (v := .bool _) (by simp [results, Try.results44, go_sem]; first | rfl | done) rfl ⟨rfl, HB.out⟩
  · have n2 : ¬ vk = 2 := by simpa using h2
    have n3 : ¬ vk = 3 := by simpa using h3
    go_enter Try.func44, Try.ntmps44
    go_wp2
    exact bodyPost_ret (v := .bool false) (by simp [results, Try.results44, go_sem]) rfl ⟨rfl, HA.out⟩

/-- The document's table, without its stamps. -/
def IsR (w : World) (B R lab : Nat) (fs : List Fd) (fv sv : Value) : Prop :=
  Has w R 33 [.int .u64 (lab : Int), fv, sv] ∧ w.ownsRow B 42 8 fv fs.length (rowF fs) ∧ lab < M64 ∧ (∀ f ∈ fs, VOk f.1 ∧ VOk f.2) ∧ fs.length ≤ 1000000
theorem IsR.below {w w' : World} {B R lab : Nat} {fs : List Fd} {fv sv : Value} (h : IsR w B R lab fs fv sv) (hb : Below w.heap.size w w') : IsR w' B R lab fs fv sv := by
  obtain ⟨h1, h2, h4⟩ := h
  exact ⟨h1.keepsT (KeepsT.below hb []) (by simp), own_keepsT h2 (KeepsT.below hb []) (by simp), h4⟩
def refPlace (fs : List Fd) (v : V) : Int := if keyB v = true then (match placeOf fs v with | some i => (i : Int) | none => -1) else -1
theorem place_none {fs : List Fd} {v : V} (h : ∀ (j : Nat) (f : Fd), fs[j]? = some f → sameB f.1 v = false) : placeOf fs v = none := by
  unfold placeOf
  rw [List.findIdx?_eq_none_iff]
  intro f hf
  obtain ⟨j, hj⟩ := List.getElem?_of_mem hf
  exact h j f hj
theorem place_at {fs : List Fd} {v : V} {k : Nat} {f : Fd} (hf : fs[k]? = some f) (hs : sameB f.1 v = true) (h : ∀ (j : Nat), j < k → ∀ (f : Fd), fs[j]? = some f → sameB f.1 v = false) : placeOf fs v = some k := by
  unfold placeOf
  rw [List.findIdx?_eq_some_iff_getElem]
  obtain ⟨hk, rfl⟩ := List.getElem?_eq_some_iff.1 hf
  exact ⟨hk, hs, fun j hj => by rw [h j hj _ (List.getElem?_eq_getElem (by omega))]; simp⟩
/-- A field's cells where its row lies. -/
theorem field_at {w : World} {B : Nat} {fs : List Fd} {av : Option Addr} {cap k : Nat} (hO : w.ownsRow B 42 8 (.slice av fs.length cap) fs.length (rowF fs)) {x0 x1 x4 x5 : Int} {x2 x6 : ByteArray} {x3 x7 : Nat} (hf : fs[k]? = some (⟨x0, x1, x2, x3⟩, ⟨x4, x5, x6, x7⟩)) :
    ∃ g, av = some ⟨g, 0, none⟩ ∧ g < w.heap.size ∧ w.cell? ⟨g, k * 8, none⟩ = some (.int .i64 x0) ∧ w.cell? ⟨g, k * 8 + 1, none⟩ = some (.int .i64 x1) ∧ w.cell? ⟨g, k * 8 + 2, none⟩ = some (.string x2) ∧ w.cell? ⟨g, k * 8 + 3, none⟩ = some (.int .u64 (x3 : Int)) ∧ w.cell? ⟨g, k * 8 + 4, none⟩ = some (.int .i64 x4) ∧ w.cell? ⟨g, k * 8 + 5, none⟩ = some (.int .i64 x5) ∧ w.cell? ⟨g, k * 8 + 6, none⟩ = some (.string x6) ∧ w.cell? ⟨g, k * 8 + 7, none⟩ = some (.int .u64 (x7 : Int)) := by
  have hk : k < fs.length := (List.getElem?_eq_some_iff.1 hf).1
  rcases own_shape hO with ⟨_, h9, _⟩ | ⟨g, cap, cs, hfv, _, hh, _⟩
  · omega
  · have hav : av = some ⟨g, 0, none⟩ := by injection hfv
    rw [hfv] at hO
    have go : ∀ j, j < 8 → ∀ u, (fcells ⟨x0, x1, x2, x3⟩ ⟨x4, x5, x6, x7⟩)[j]? = some u → w.cell? ⟨g, k * 8 + j, none⟩ = some u := fun j hj u hu => by
      have hr : (rowF fs)[k * 8 + j]? = some u := by rw [rowF_at fs k _ hf j hj]; exact hu
      obtain ⟨hj2, hv2⟩ := List.getElem?_eq_some_iff.1 hr
      rw [own_cell hO _ hj2, hv2]
    exact ⟨g, hav, hh.lt, go 0 (by omega) _ rfl, go 1 (by omega) _ rfl, go 2 (by omega) _ rfl, go 3 (by omega) _ rfl, go 4 (by omega) _ rfl, go 5 (by omega) _ rfl, go 6 (by omega) _ rfl, go 7 (by omega) _ rfl⟩
def RefFind (w : World) (n : Int) (e : Ending) (w' : World) : Prop := e = .returned (.int .i64 n) ∧ Below w.heap.size w w'
set_option maxRecDepth 100000 in
set_option maxHeartbeats 2000000 in
theorem refFind_any (B R lab : Nat) (fs : List Fd) (fv sv : Value) (v : V) (w : World) (h : IsR w B R lab fs fv sv) : Calls Try.prog 46 #[.pointer (some ⟨R, 0, none⟩), v.agg] w (RefFind w (refPlace fs v)) := by
  obtain ⟨av, cap, rfl⟩ := own_slice h.2.1
  have HK := fun W => Lib.hid (refkey_any v W)
  have HT := Lib.hid (fun (W : World) (hb : Below w.heap.size w W) => h.below hb)
  have hlen := h.2.2.2.2
  have HS := Lib.hid (fun (W : World) (a : V) => refSame_any a v W)
  have HP0 : Hid (keyB v = false → refPlace fs v = -1) := Lib.hid (fun hk => by unfold refPlace; rw [hk]; rfl)
  have HP1 : Hid (keyB v = true → (∀ (j : Nat) (f : Fd), fs[j]? = some f → sameB f.1 v = false) → refPlace fs v = -1) := Lib.hid (fun hk hp => by unfold refPlace; rw [hk, place_none hp]; rfl)
  have HP2 : Hid (keyB v = true → ∀ (k : Nat) (f : Fd), fs[k]? = some f → sameB f.1 v = true → (∀ (j : Nat), j < k → ∀ (f : Fd), fs[j]? = some f → sameB f.1 v = false) → refPlace fs v = (k : Int)) := Lib.hid (fun hk k f hf hs hp => by unfold refPlace; rw [hk, place_at hf hs hp]; rfl)
  obtain ⟨rp, hrp⟩ : ∃ x, refPlace fs v = x := ⟨_, rfl⟩
  rw [hrp] at HP0 HP1 HP2 ⊢
  obtain ⟨kb, hkb⟩ : ∃ x, keyB v = x := ⟨_, rfl⟩
  simp only [hkb] at HK HP0 HP1 HP2
  clear h hrp hkb
  obtain ⟨SB, hSB⟩ : ∃ F : V → Bool, F = fun a => sameB a v := ⟨_, rfl⟩
  have hSB' : ∀ a, sameB a v = SB a := fun a => by rw [hSB]
  simp only [hSB'] at HS HP1 HP2
  clear hSB hSB'
  obtain ⟨vk, vn, vs, vl⟩ := v
  simp only [V.agg] at HK HS ⊢
  have hA := (Below.refl w.heap.size w).alloc (Nat.le_refl _) (.cells #[.int .i64 vk, .int .i64 vn, .string vs, .int .u64 (vl : Int)] 35)
  have hX := Has.new w 35 [.int .i64 vk, .int .i64 vn, .string vs, .int .u64 (vl : Int)]
  have HA := Lib.hid hA
  have HX := Lib.hid hX
  clear hA hX
  go_enter Try.func46, Try.ntmps46
  go_wp2_with fail
  with_reducible refine ((HK _).out).mono ?_
  rintro e w1 ⟨rfl, hb1⟩
  have HB1 := Lib.hid (HA.out.trans (hb1.mono (by simp)))
  have HX1 := Lib.hid (HX.out.below hb1 HX.out.lt)
  clear hb1 HA HX
  cases kb
  · have hr := HP0.out rfl
    go_wp2
    exact bodyPost_ret (v := .int .i64 rp) (by simp [results, Try.results46, go_sem, hr]) rfl ⟨rfl, HB1.out⟩
  · have t1 := (HT.out _ HB1.out).1.cell 1
    have hlR := (HT.out _ HB1.out).1.lt
    simp only [List.getElem?_cons_zero, List.getElem?_cons_succ] at t1
    go_wp2
    clear t1 hlR
    go_loopw [14] (fun i wr => ∃ k : Nat, i = .int .i64 k ∧ k ≤ fs.length ∧ Hid (∀ (j : Nat), j < k → ∀ (f : Fd), fs[j]? = some f → SB f.1 = false) ∧ Hid (Below w1.heap.size w1 wr)) (fun i _ => fs.length - (intOf i).toNat)
    case atStart => exact ⟨0, rfl, by omega, Lib.hid (fun j hj => by omega), Lib.hid (Below.refl _ _)⟩
    case round =>
      obtain ⟨k, rfl, hk, hF, hB⟩ := hrel
      have hB0 := HB1.out.trans (hB.out.mono HB1.out.size)
      by_cases hlt : k < fs.length
      · have hO := (HT.out _ hB0).2.1
        obtain ⟨⟨⟨x0, x1, x2, x3⟩, ⟨x4, x5, x6, x7⟩⟩, hx⟩ : ∃ x, fs[k]? = some x := ⟨_, List.getElem?_eq_getElem hlt⟩
        obtain ⟨g, rfl, hgl, c0, c1, c2, c3, c4, c5, c6, c7⟩ := field_at hO hx
        have HXX := Lib.hid hx
        have hx1 := HX1.out.below (hB.out.alloc hB.out.size (.cells #[.int .i64 x0, .int .i64 x1, .string x2, .int .u64 (x3 : Int), .int .i64 x4, .int .i64 x5, .string x6, .int .u64 (x7 : Int)] 42)) HX1.out.lt
        have b0 := hx1.cell 0
        have b1 := hx1.cell 1
        have b2 := hx1.cell 2
        have b3 := hx1.cell 3
        have hlb := hx1.lt
        simp at b0 b1 b2 b3 hlb
        have hi1 : (k : Int) < (fs.length : Int) := by omega
        clear hO hx hx1
        have HSx := fun W => Lib.hid (HS.out W ⟨x0, x1, x2, x3⟩)
        simp only at HSx
        obtain ⟨sb, hsb⟩ : ∃ b, SB ⟨x0, x1, x2, x3⟩ = b := ⟨_, rfl⟩
        rw [hsb] at HSx
        have HSB := Lib.hid hsb
        clear hsb
        go_wp2_with fail
        with_reducible refine ((HSx _).out).mono ?_
        rintro e w3 ⟨rfl, hb3⟩
        have HB4 := Lib.hid ((hB.out.alloc hB.out.size (.cells #[.int .i64 x0, .int .i64 x1, .string x2, .int .u64 (x3 : Int), .int .i64 x4, .int .i64 x5, .string x6, .int .u64 (x7 : Int)] 42)).trans (hb3.mono (by have := hB.out.size; simp; omega)))
        clear hb3
        cases sb
        · go_wp2
          go_roundw
          case rel =>
            refine ⟨k + 1, by go_num, by omega, Lib.hid (fun j hj f hf => ?_), HB4⟩
            by_cases hjk : j < k
            · exact hF.out j hjk f hf
            · obtain rfl : j = k := by omega
              have e := HXX.out
              rw [hf] at e
              cases e
              exact HSB.out
          case measure => simp [intOf]; omega
        · obtain rfl : rp = (k : Int) := HP2.out trivial k _ HXX.out HSB.out hF.out
          have HBe := Lib.hid (HB1.out.trans (HB4.out.mono HB1.out.size))
          go_wp2
          exact bodyPost_ret (v := .int .i64 (k : Int)) (by simp [results, Try.results46, go_sem]) rfl ⟨rfl, HBe.out⟩
      · obtain rfl : k = fs.length := by omega
        obtain rfl : rp = -1 := HP1.out trivial (fun j f hf => hF.out j (List.getElem?_eq_some_iff.1 hf).1 f hf)
        have hlt2 : ¬ (fs.length : Int) < (fs.length : Int) := by omega
        have HBe := Lib.hid hB0
        clear hB0
        go_wp2
        exact bodyPost_ret (v := .int .i64 (-1)) (by simp [results, Try.results46, go_sem]) rfl ⟨rfl, HBe.out⟩
end TabD
end Go.Proofs.Ytpmbbkhhnkhcbaa
