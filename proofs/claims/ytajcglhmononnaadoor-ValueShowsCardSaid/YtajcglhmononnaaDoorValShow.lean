/- The kind of a value, and a value, as texts: both sides. -/
import Derived.Test.YtajcglhmononnaaDoorVal
import Derived.Test.YtajcglhmononnaaDoorNumAwake
import Derived.Test.YtajcglhmononnaaDoorTables
namespace Go.Proofs.YtajcglhmononnaaDoor
open Go.RowKit ObjM
namespace ValD
open NumM LabelM LabelD NumD

def kindS (k : Int) : ByteArray :=
  if k = 0 then ⟨#[110, 105, 108]⟩ else if k = 1 then ⟨#[98, 111, 111, 108]⟩ else if k = 2 then ⟨#[105, 110, 116]⟩ else if k = 3 then ⟨#[115, 116, 114, 105, 110, 103]⟩
  else if k = 4 then ⟨#[116, 97, 98, 108, 101]⟩ else if k = 5 then ⟨#[102, 117, 110, 99, 116, 105, 111, 110]⟩ else if k = 6 then ⟨#[116, 104, 114, 101, 97, 100]⟩ else ⟨#[63]⟩
def showS (a : V) : ByteArray :=
  if a.k = 1 then (if a.n = 0 then ⟨#[102, 97, 108, 115, 101]⟩ else ⟨#[116, 114, 117, 101]⟩) else if a.k = 2 then ⟨(Lib.itoa a.n).toArray⟩ else if a.k = 3 then a.s else kindS a.k
/-- The table of the kinds' names. -/
structure NamesT (w : World) : Prop where
  lt : 0 < w.heap.size
  c0 : w.cell? ⟨0, 0, none⟩ = some (.string ⟨#[110, 105, 108]⟩)
  c1 : w.cell? ⟨0, 1, none⟩ = some (.string ⟨#[98, 111, 111, 108]⟩)
  c2 : w.cell? ⟨0, 2, none⟩ = some (.string ⟨#[105, 110, 116]⟩)
  c3 : w.cell? ⟨0, 3, none⟩ = some (.string ⟨#[115, 116, 114, 105, 110, 103]⟩)
  c4 : w.cell? ⟨0, 4, none⟩ = some (.string ⟨#[116, 97, 98, 108, 101]⟩)
  c5 : w.cell? ⟨0, 5, none⟩ = some (.string ⟨#[102, 117, 110, 99, 116, 105, 111, 110]⟩)
  c6 : w.cell? ⟨0, 6, none⟩ = some (.string ⟨#[116, 104, 114, 101, 97, 100]⟩)
theorem NamesT.below {w w' : World} (h : NamesT w) (hb : Below w.heap.size w w') : NamesT w' := by
  have hc : ∀ o, w'.cell? ⟨0, o, none⟩ = w.cell? ⟨0, o, none⟩ := fun o => hb.cell (p := ⟨0, o, none⟩) h.lt
  exact ⟨Nat.lt_of_lt_of_le h.lt hb.size, (hc 0).trans h.c0, (hc 1).trans h.c1, (hc 2).trans h.c2, (hc 3).trans h.c3, (hc 4).trans h.c4, (hc 5).trans h.c5, (hc 6).trans h.c6⟩
/-- What the row lists. -/
structure ShowT (w : World) : Prop where
  names : NamesT w
  pow : Tab w
theorem ShowT.below {w w' : World} (h : ShowT w) (hb : Below w.heap.size w w') : ShowT w' := ⟨h.names.below hb, h.pow.below hb⟩

theorem kind_cases (k : Int) : k = 0 ∨ k = 1 ∨ k = 2 ∨ k = 3 ∨ k = 4 ∨ k = 5 ∨ k = 6 ∨ ((k < 0 ∨ 7 ≤ k) ∧ (k == 0) = false ∧ (k == 1) = false ∧ (k == 2) = false ∧ (k == 3) = false ∧ (k == 4) = false ∧ (k == 5) = false ∧ (k == 6) = false) := by
  by_cases h : 0 ≤ k ∧ k < 7
  · omega
  · refine .inr (.inr (.inr (.inr (.inr (.inr (.inr ⟨by omega, ?_, ?_, ?_, ?_, ?_, ?_, ?_⟩)))))) <;> simp <;> omega
theorem kindS_other {k : Int} (h : k < 0 ∨ 7 ≤ k) : kindS k = ⟨#[63]⟩ := by
  unfold kindS
  rw [if_neg (by omega), if_neg (by omega), if_neg (by omega), if_neg (by omega), if_neg (by omega), if_neg (by omega), if_neg (by omega)]

set_option maxRecDepth 100000 in
set_option maxHeartbeats 2000000 in
theorem refKind_any (k : Int) (w : World) : Calls Tryd.prog 11 #[.int .i64 k] w fun e w' => e = .returned (.string (kindS k)) ∧ w = w' := by
  rcases kind_cases k with rfl | rfl | rfl | rfl | rfl | rfl | rfl | ⟨h, h0, h1, h2, h3, h4, h5, h6⟩
  case inr.inr.inr.inr.inr.inr.inr =>
    rw [kindS_other h]
    clear h
    go_enter Tryd.func11, Tryd.ntmps11
    go_wp2
    go_ret
    exact ⟨rfl, rfl⟩
  all_goals
    go_enter Tryd.func11, Tryd.ntmps11
    go_wp2
    go_ret
    exact ⟨rfl, rfl⟩
set_option maxRecDepth 100000 in
set_option maxHeartbeats 1000000 in
theorem refType_any (a : V) (w : World) : Calls Tryd.prog 7 #[a.agg] w fun e w' => e = .returned (.string (kindS a.k)) ∧ Below w.heap.size w w' := by
  obtain ⟨ak, an, sa, al⟩ := a
  have HK := fun W => Lib.hid (refKind_any ak W)
  obtain ⟨z, hz⟩ : ∃ z, kindS ak = z := ⟨_, rfl⟩
  simp only [hz] at HK ⊢
  clear hz
  simp only [V.agg]
  go_enter Tryd.func7, Tryd.ntmps7
  go_wp2_with fail
  with_reducible refine ((HK _).out).mono ?_
  rintro e w1 ⟨rfl, hw⟩
  subst hw
  go_wp2
  go_ret
  exact ⟨rfl, alloc1⟩
set_option maxRecDepth 100000 in
set_option maxHeartbeats 2000000 in
theorem type_any (a : V) (w : World) (hT : NamesT w) : Calls Tryd.prog 6 #[a.agg] w fun e w' => e = .returned (.string (kindS a.k)) ∧ Below w.heap.size w w' := by
  obtain ⟨ak, an, sa, al⟩ := a
  obtain ⟨hlt, c0, c1, c2, c3, c4, c5, c6⟩ := hT
  simp only [V.agg]
  rcases kind_cases ak with rfl | rfl | rfl | rfl | rfl | rfl | rfl | ⟨h, -⟩
  case inr.inr.inr.inr.inr.inr.inr =>
    rw [kindS_other h]
    rcases h with h | h
    · go_enter Tryd.func6, Tryd.ntmps6
      go_wp2
      go_ret
      exact ⟨rfl, alloc1⟩
    · have h2 : ¬ ak < 0 := by omega
      go_enter Tryd.func6, Tryd.ntmps6
      go_wp2
      go_ret
      exact ⟨rfl, alloc1⟩
  all_goals
    go_enter Tryd.func6, Tryd.ntmps6
    go_wp2
    go_ret
    exact ⟨rfl, alloc1⟩

theorem show_cases (a : V) : (a.k = 1 ∧ a.n = 0 ∧ showS a = ⟨#[102, 97, 108, 115, 101]⟩) ∨ (a.k = 1 ∧ (a.n == 0) = false ∧ showS a = ⟨#[116, 114, 117, 101]⟩) ∨ (a.k = 2 ∧ showS a = ⟨(Lib.itoa a.n).toArray⟩) ∨ (a.k = 3 ∧ showS a = a.s) ∨
    (((a.k == 1) = false ∧ (a.k == 2) = false ∧ (a.k == 3) = false) ∧ showS a = kindS a.k) := by
  unfold showS
  by_cases h1 : a.k = 1
  · rw [if_pos h1]
    by_cases hn : a.n = 0
    · exact .inl ⟨h1, hn, by rw [if_pos hn]⟩
    · exact .inr (.inl ⟨h1, by simpa using hn, by rw [if_neg hn]⟩)
  · rw [if_neg h1]
    by_cases h2 : a.k = 2
    · exact .inr (.inr (.inl ⟨h2, by rw [if_pos h2]⟩))
    · rw [if_neg h2]
      by_cases h3 : a.k = 3
      · exact .inr (.inr (.inr (.inl ⟨h3, by rw [if_pos h3]⟩)))
      · exact .inr (.inr (.inr (.inr ⟨⟨by simpa using h1, by simpa using h2, by simpa using h3⟩, by rw [if_neg h3]⟩)))

set_option maxRecDepth 100000 in
set_option maxHeartbeats 2000000 in
theorem vshow_any (a : V) (hn : -9223372036854775808 ≤ a.n ∧ a.n ≤ 9223372036854775807) (w : World) (hT : ShowT w) : Calls Tryd.prog 8 #[a.agg] w fun e w' => e = .returned (.string (showS a)) ∧ Below w.heap.size w w' := by
  have HT := fun (W : World) (hb : Below w.heap.size w W) => Lib.hid (type_any a W (hT.below hb).names)
  have HN := fun (W : World) (hb : Below w.heap.size w W) => Lib.hid (show_any a.n hn.1 hn.2 W (hT.below hb).pow)
  have hc := show_cases a
  clear hT hn
  obtain ⟨ak, an, sa, al⟩ := a
  simp only at hc HN
  obtain ⟨z, hz⟩ : ∃ z, showS ⟨ak, an, sa, al⟩ = z := ⟨_, rfl⟩
  obtain ⟨kz, hkz⟩ : ∃ z, kindS ak = z := ⟨_, rfl⟩
  obtain ⟨iz, hiz⟩ : ∃ z : ByteArray, (⟨(Lib.itoa an).toArray⟩ : ByteArray) = z := ⟨_, rfl⟩
  simp only [hz, hkz, hiz] at hc HN HT ⊢
  clear hz hkz hiz
  simp only [V.agg] at HT ⊢
  rcases hc with ⟨rfl, rfl, rfl⟩ | ⟨rfl, h, rfl⟩ | ⟨rfl, rfl⟩ | ⟨rfl, rfl⟩ | ⟨⟨h1, h2, h3⟩, rfl⟩
  · go_enter Tryd.func8, Tryd.ntmps8
    go_wp2
    go_ret
    exact ⟨rfl, alloc1⟩
  · have h2 : (an != 0) = true := by simpa using h
    go_enter Tryd.func8, Tryd.ntmps8
    go_wp2
    go_ret
    exact ⟨rfl, alloc1⟩
  · go_enter Tryd.func8, Tryd.ntmps8
    go_wp2_with fail
    with_reducible refine ((HN _ alloc1).out).mono ?_
    rintro e w1 ⟨rfl, hb⟩
    go_wp2
    go_ret
    exact ⟨rfl, alloc1.trans (hb.mono (by simp))⟩
  · go_enter Tryd.func8, Tryd.ntmps8
    go_wp2
    go_ret
    exact ⟨rfl, alloc1⟩
  · go_enter Tryd.func8, Tryd.ntmps8
    go_wp2_with fail
    with_reducible refine ((HT _ alloc1).out).mono ?_
    rintro e w1 ⟨rfl, hb⟩
    go_wp2
    go_ret
    exact ⟨rfl, alloc1.trans (hb.mono (by simp))⟩
set_option maxRecDepth 100000 in
set_option maxHeartbeats 2000000 in
theorem refvShow_any (a : V) (hn : -9223372036854775808 ≤ a.n ∧ a.n ≤ 9223372036854775807) (w : World) (hT : ShowT w) : Calls Tryd.prog 9 #[a.agg] w fun e w' => e = .returned (.string (showS a)) ∧ Below w.heap.size w w' := by
  have HT := fun (W : World) => Lib.hid (refType_any a W)
  have HN := fun (W : World) (hb : Below w.heap.size w W) => Lib.hid (refShow_any a.n hn.1 hn.2 W (hT.below hb).pow)
  have hc := show_cases a
  clear hT hn
  obtain ⟨ak, an, sa, al⟩ := a
  simp only at hc HN
  obtain ⟨z, hz⟩ : ∃ z, showS ⟨ak, an, sa, al⟩ = z := ⟨_, rfl⟩
  obtain ⟨kz, hkz⟩ : ∃ z, kindS ak = z := ⟨_, rfl⟩
  obtain ⟨iz, hiz⟩ : ∃ z : ByteArray, (⟨(Lib.itoa an).toArray⟩ : ByteArray) = z := ⟨_, rfl⟩
  simp only [hz, hkz, hiz] at hc HN HT ⊢
  clear hz hkz hiz
  simp only [V.agg] at HT ⊢
  rcases hc with ⟨rfl, rfl, rfl⟩ | ⟨rfl, h, rfl⟩ | ⟨rfl, rfl⟩ | ⟨rfl, rfl⟩ | ⟨⟨h1, h2, h3⟩, rfl⟩
  · go_enter Tryd.func9, Tryd.ntmps9
    go_wp2
    go_ret
    exact ⟨rfl, alloc1⟩
  · have h2 : (an != 0) = true := by simpa using h
    go_enter Tryd.func9, Tryd.ntmps9
    go_wp2
    go_ret
    exact ⟨rfl, alloc1⟩
  · go_enter Tryd.func9, Tryd.ntmps9
    go_wp2_with fail
    with_reducible refine ((HN _ alloc1).out).mono ?_
    rintro e w1 ⟨rfl, hb⟩
    go_wp2
    go_ret
    exact ⟨rfl, alloc1.trans (hb.mono (by simp))⟩
  · go_enter Tryd.func9, Tryd.ntmps9
    go_wp2
    go_ret
    exact ⟨rfl, alloc1⟩
  · go_enter Tryd.func9, Tryd.ntmps9
    go_wp2_with fail
    with_reducible refine ((HT _).out).mono ?_
    rintro e w1 ⟨rfl, hb⟩
    go_wp2
    go_ret
    exact ⟨rfl, alloc1.trans (hb.mono (by simp))⟩
end ValD
end Go.Proofs.YtajcglhmononnaaDoor
