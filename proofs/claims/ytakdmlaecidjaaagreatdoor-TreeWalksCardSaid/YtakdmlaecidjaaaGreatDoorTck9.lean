/- What neither kinds nor texts tell; a node that must be: the program's. -/
import Derived.Test.YtakdmlaecidjaaaGreatDoorTck4
import Derived.Test.YtakdmlaecidjaaaGreatDoorTck5b
import Derived.Test.YtakdmlaecidjaaaGreatDoorTck5f
namespace Go.Proofs.YtakdmlaecidjaaaGreatDoor
open Go.RowKit ObjM
namespace TreeD

theorem must_yes (n : Int) (w : World) : Calls Tryz.prog 31 #[.bool true, .int .i64 n] w fun e w' => e = .returned (.tuple #[]) ∧ w = w' := by
  go_enter Tryz.func31, Tryz.ntmps31
  go_wp2
  go_end0
  exact ⟨rfl, rfl⟩
def panW (n : Int) : List PanicEntry := [{ v := .iface 47 (.agg #[.int .i64 n, .int .i64 60]), recovered := false }]
set_option maxRecDepth 100000 in
theorem must_no (n : Int) (w : World) : Calls Tryz.prog 31 #[.bool false, .int .i64 n] w fun e w' => e = .panicked (panW n) ∧ w = w' := by
  go_enter Tryz.func31, Tryz.ntmps31
  go_wp2
  exact ⟨rfl, rfl, rfl⟩
theorem fit_prog {ks : List Int} (h : fitB [99, 42, 98] ks = true) : 0 < ks.length ∧ ∀ k ∈ ks.dropLast, k = 2 := by
  have e : fitB [99, 42, 98] ks = rfitP [] (some 99) [98] ks := fit_one rfl rfl (fun m => by simp [expand]) ks
  rw [e, rfit_some] at h
  by_cases h1 : ks.length < ([] : List UInt8).length + ([98] : List UInt8).length
  · rw [if_pos h1] at h
    cases h
  · rw [if_neg h1] at h
    have hl : 0 < ks.length := by simp only [List.length_nil, List.length_cons] at h1; omega
    refine ⟨hl, ?_⟩
    have key : ∀ (m : Nat) (ks : List Int), allKids (List.replicate m 99 ++ [98]) ks = true → ∀ k ∈ ks.dropLast, k = 2 := by
      intro m
      induction m with
      | zero =>
        intro ks hk
        match ks, hk with
        | [k], _ => simp
        | [], hk => cases hk
        | a :: b :: r, hk =>
          have := allKids_len hk
          simp at this
      | succ m ih =>
        intro ks hk
        cases ks with
        | nil => cases hk
        | cons a r =>
          have h2 : (kidB 99 a && allKids (List.replicate m 99 ++ [98]) r) = true := hk
          rw [Bool.and_eq_true] at h2
          have ha : a = 2 := by simpa [kidB] using h2.1
          intro k hkm
          cases r with
          | nil => simp at hkm
          | cons b s =>
            rw [List.dropLast_cons_of_ne_nil (by simp)] at hkm
            rcases List.mem_cons.1 hkm with rfl | hkm
            · exact ha
            · exact ih _ h2.2 k hkm
    exact key _ ks (by simpa using h)
theorem fit_first {s : List UInt8} {ks : List Int} (h : fitB s ks = true) (hs : starB s = false) (h0 : 0 < s.length) : 0 < ks.length := by
  rw [fit_plain hs] at h
  have := allKids_len h
  omega
theorem map_dropLast (f : Int → Int) (ks : List Int) : (ks.map f).dropLast = ks.dropLast.map f := List.map_dropLast.symm
/-- What a node's slice of kids has behind its length. -/
def CapOk (W : World) (lv : Value) (l : List Nd) : Prop :=
  ∀ b o n c0, lv = .slice (some ⟨b, o, none⟩) n c0 → ∀ i, i < l.length → ∀ a m c, W.cell? ⟨b, o + i * 4 + 2, none⟩ = some (.slice a m c) → m ≤ c
set_option maxRecDepth 100000 in
set_option maxHeartbeats 8000000 in
theorem rest_any (x : Nd) (kv lv dv : Value) (l : List Nd) (C i : Nat) (w : World) (hC : Ck w C lv dv l) (hk : KidsAt w kv x.kids) (hD : Done l i) (hi : i ≤ l.length) (hkids : ∀ k ∈ x.kids, 0 ≤ k ∧ k < (i : Int)) (hkl : x.kids.length < 1000000) (hll : l.length ≤ 100000) (hokl : ∀ n ∈ l, NdOk n) (hcap : ∀ a n c, kv = .slice a n c → n ≤ c) (hfit : fitB (WANT.getD x.kind.toNat []) (kindsOf l x.kids) = true) :
    Calls Tryz.prog 34 #[.pointer (some ⟨C, 0, none⟩), .agg #[.int .i64 x.kind, .string x.text, kv, .int .i64 x.pos]] w fun e w' => e = .returned (.bool (restB l x)) ∧ Below w.heap.size w w' := by
  obtain ⟨x0, x1, ks, x3⟩ := x
  simp only at *
  have hok : ∀ k ∈ ks, 0 ≤ k ∧ k < (l.length : Int) := fun k h => by have := hkids k h; omega
  have hA : Below w.heap.size w (w.alloc (.cells #[.int .i64 x0, .string x1, kv, .int .i64 x3] 35)) := (Below.refl _ w).alloc (Nat.le_refl _) _
  have HA : Hid (Below w.heap.size w (w.alloc (.cells #[.int .i64 x0, .string x1, kv, .int .i64 x3] 35))) := Lib.hid hA
  have hsz : w.heap.size ≤ (w.alloc (.cells #[.int .i64 x0, .string x1, kv, .int .i64 x3] 35)).heap.size := hA.size
  have hC2 := hC.below hA
  have hk2 := hk.below (Nat.le_refl _) hA
  have hN := Has.new w 35 [.int .i64 x0, .string x1, kv, .int .i64 x3]
  obtain ⟨av, cv, rfl⟩ := hk.shape
  have hkn : (kindsOf l ks).length = ks.length := by simp [kindsOf]
  by_cases h1 : x0 = 1
  · subst h1
    obtain ⟨hp, hch⟩ := fit_prog hfit
    have hch2 : ∀ k ∈ ks.dropLast, chanB (ndAt l k).text = true := by
      intro k hkm
      have hk0 : kindAt l k = 2 := hch _ (by unfold kindsOf; rw [map_dropLast]; exact List.mem_map_of_mem hkm)
      have hkk := hkids k (List.dropLast_subset _ hkm)
      obtain ⟨q, rfl⟩ : ∃ q : Nat, k = (q : Int) := ⟨k.toNat, by omega⟩
      have hq : q < l.length := by omega
      have hg := (hD q l[q] (by omega) (List.getElem?_eq_getElem hq)).text
      rw [kindAt_q hq] at hk0
      rw [ndAt_q hq]
      unfold textB at hg
      rw [if_pos hk0] at hg
      exact hg
    have he : restB l ⟨1, x1, ks, x3⟩ = unlikeB (·.take 1) (textsOf l ks.dropLast) := by simp [restB]
    rw [he]
    have HR := Lib.hid (channels_any 1 x1 ks x3 _ lv dv l C _ hC2 hk2 hok hkl (by omega) hch2 hcap)
    generalize unlikeB (·.take 1) (textsOf l ks.dropLast) = R at HR ⊢
    clear hC2 hk2 hN hA hfit hch hch2 he hD hkids hok hC hk hcap
    go_enter Tryz.func34, Tryz.ntmps34
    go_wp2_with fail
    refine (HR.out).mono ?_
    rintro e w1 ⟨rfl, hb⟩
    have HB := Lib.hid (HA.out.trans (hb.mono hsz))
    clear hb
    go_wp2
    go_ret
    exact ⟨rfl, HB.out⟩
  · by_cases h3 : x0 = 3
    · subst h3
      have he : restB l ⟨3, x1, ks, x3⟩ = lastB l ks := by simp [restB]
      rw [he]
      have HR := Lib.hid (last_any 3 x1 ks x3 _ lv dv l C _ hC2 hk2 hok (by omega) hll)
      generalize lastB l ks = R at HR ⊢
      clear hC2 hk2 hN hA hfit he hD hkids hok hC hk hcap h1
      go_enter Tryz.func34, Tryz.ntmps34
      go_wp2_with fail
      refine (HR.out).mono ?_
      rintro e w1 ⟨rfl, hb⟩
      have HB := Lib.hid (HA.out.trans (hb.mono hsz))
      clear hb
      go_wp2
      go_ret
      exact ⟨rfl, HB.out⟩
    · by_cases h67 : x0 = 6 ∨ x0 = 7
      · have hp : 0 < ks.length := by
          rw [← hkn]
          rcases h67 with rfl | rfl
          · exact fit_first hfit rfl (by decide)
          · exact fit_first hfit rfl (by decide)
        obtain ⟨g, o, rfl, hg2, z0⟩ := hk2.at 0 hp
        have hy := hkids _ (List.getElem_mem hp)
        have hgd : ks.getD 0 0 = ks[0] := by simp [List.getD, hp]
        have he : restB l ⟨x0, x1, ks, x3⟩ = baseB l ks[0] := by
          rw [← hgd]
          unfold restB
          simp only
          rw [if_neg h1, if_neg h3, if_pos h67]
        rw [he]
        generalize ks[0] = y at z0 hy
        obtain ⟨q, rfl⟩ : ∃ q : Nat, y = (q : Int) := ⟨y.toNat, by omega⟩
        have HR := Lib.hid (base_any lv dv l C i q _ hC2 hD (by omega) hi hokl)
        generalize baseB l (q : Int) = R at HR ⊢
        have n2 := hN.cell 2
        have nl := hN.lt
        simp only [List.getElem?_cons_succ, List.getElem?_cons_zero] at n2
        simp only [Nat.add_zero] at z0
        have hp1 : (0 : Int) < (ks.length : Int) := by omega
        obtain ⟨m, hm⟩ : ∃ m, ks.length = m := ⟨_, rfl⟩
        have hsz2 := hsz
        clear hsz
        rw [hm] at HR HA hp1 z0 n2 nl hsz2 ⊢
        clear hC2 hk2 hN hA hfit he hD hkids hok hC hk hcap h1 h3 hgd hkn hp hm
        rcases h67 with rfl | rfl
        all_goals
          go_enter Tryz.func34, Tryz.ntmps34
          go_wp2_with fail
          refine (HR.out).mono ?_
          rintro e w1 ⟨rfl, rfl⟩
          go_wp2
          go_ret
          exact ⟨rfl, HA.out⟩
      · have h6 : ¬ x0 = 6 := fun e => h67 (.inl e)
        have h7 : ¬ x0 = 7 := fun e => h67 (.inr e)
        by_cases h21 : x0 = 21
        · subst h21
          have he : restB l ⟨21, x1, ks, x3⟩ = argsB l ⟨21, x1, ks, x3⟩ := by simp [restB]
          rw [he]
          have HR := Lib.hid (args_any ⟨21, x1, ks, x3⟩ _ lv dv l C _ hC2 hk2 hok (by simp only; omega) hokl)
          simp only at HR
          generalize argsB l ⟨21, x1, ks, x3⟩ = R at HR ⊢
          clear hC2 hk2 hN hA hfit he hD hkids hok hC hk hcap h1 h3 h67
          go_enter Tryz.func34, Tryz.ntmps34
          go_wp2_with fail
          refine (HR.out).mono ?_
          rintro e w1 ⟨rfl, hb⟩
          have HB := Lib.hid (HA.out.trans (hb.mono hsz))
          clear hb
          go_wp2
          go_ret
          exact ⟨rfl, HB.out⟩
        · by_cases h32 : x0 = 32
          · subst h32
            have he : restB l ⟨32, x1, ks, x3⟩ = unlikeB id (textsOf l ks) := by simp [restB]
            rw [he]
            have HR := Lib.hid (unlike_any 32 x1 ks x3 _ lv dv l C _ hC2 hk2 hok hkl hokl)
            generalize unlikeB id (textsOf l ks) = R at HR ⊢
            clear hC2 hk2 hN hA hfit he hD hkids hok hC hk hcap h1 h3 h67
            go_enter Tryz.func34, Tryz.ntmps34
            go_wp2_with fail
            refine (HR.out).mono ?_
            rintro e w1 ⟨rfl, hb⟩
            have HB := Lib.hid (HA.out.trans (hb.mono hsz))
            clear hb
            go_wp2
            go_ret
            exact ⟨rfl, HB.out⟩
          · have he : restB l ⟨x0, x1, ks, x3⟩ = true := by simp [restB, h1, h3, h6, h7, h21, h32]
            rw [he]
            clear hC2 hk2 hN hA hfit he hD hkids hok hC hk hcap h67
            go_enter Tryz.func34, Tryz.ntmps34
            go_wp2
            go_ret
            exact ⟨rfl, HA.out⟩
end TreeD
end Go.Proofs.YtakdmlaecidjaaaGreatDoor

namespace Go.Proofs.YtakdmlaecidjaaaGreatDoor
open Go.RowKit ObjM
namespace TreeD

/-- What never changes: tables, nodes. -/
structure Still (W : World) (lv : Value) (l : List Nd) : Prop where
  tt : Tt W
  tk : Tk W
  nds : NdsAt W lv l
  cap : CapOk W lv l
/-- How a node's check comes out. -/
inductive NodeIs (l : List Nd) (i : Nat) (x : Nd) (u : List Bool) (w0 : World) (B C D : Nat) (lv : Value) (m : Nat) (e : Ending) (w' : World) : Prop
  | good (u' : List Bool) : stepV l i x u = some u' → e = .returned (.tuple #[]) → Below B w0 w' → Has w' C 51 [lv, .slice (some ⟨D, 0, none⟩) m m] → Has w' D 4 (u'.map Value.bool) → NodeIs l i x u w0 B C D lv m e w'
  | bad : stepV l i x u = none → e = .panicked (panW (i : Int)) → Below B w0 w' → NodeIs l i x u w0 B C D lv m e w'
theorem step_own {l : List Nd} {i : Nat} {x : Nd} {u : List Bool} (h : ownB l x = false) : stepV l i x u = none := by
  unfold stepV
  split
  · rfl
  · rw [h]
    rfl
theorem own_kind {l : List Nd} {x : Nd} (h : ¬ (1 ≤ x.kind ∧ x.kind ≤ 36 ∧ 0 ≤ x.pos)) : ownB l x = false := by
  cases e : ownB l x with
  | false => rfl
  | true =>
    unfold ownB at e
    simp only [Bool.and_eq_true, decide_eq_true_eq] at e
    exact absurd ⟨e.1, e.2.1, e.2.2.1⟩ h
theorem own_rest {l : List Nd} {x : Nd} (h : 1 ≤ x.kind ∧ x.kind ≤ 36 ∧ 0 ≤ x.pos) : ownB l x = (fitB (WANT.getD x.kind.toNat []) (kindsOf l x.kids) && (textB x && restB l x)) := by
  unfold ownB
  rw [decide_eq_true h.1, decide_eq_true h.2.1, decide_eq_true h.2.2]
  rfl
theorem take_drop_yes {n : Nat} {ks : List Int} {u : List Bool} {k q : Nat} (hk : k < ks.length) (he : ks[k] = (q : Int)) (hq : q < n) (hu : u.getD q false = false) : takeKids n (ks.drop k) u = takeKids n (ks.drop (k + 1)) (u.set q true) := by
  rw [List.drop_eq_getElem_cons hk, takeKids, he, if_pos ⟨by omega, by omega, by rw [Int.toNat_natCast]; exact hu⟩, Int.toNat_natCast]
theorem take_drop_no {n : Nat} {ks : List Int} {u : List Bool} {k : Nat} (hk : k < ks.length) (h : ¬ (0 ≤ ks[k] ∧ ks[k] < (n : Int) ∧ u.getD ks[k].toNat false = false)) : takeKids n (ks.drop k) u = none := by
  rw [List.drop_eq_getElem_cons hk, takeKids, if_neg h]
theorem bools_get {u : List Bool} {q : Nat} (hq : q < u.length) : (u.map Value.bool)[q]? = some (.bool (u.getD q false)) := by
  rw [List.getElem?_map, List.getElem?_eq_getElem hq]
  simp [List.getD, hq]
set_option maxRecDepth 100000 in
set_option maxHeartbeats 16000000 in
theorem node_any (l : List Nd) (i : Nat) (hi : i < l.length) (u : List Bool) (hu : u.length = l.length) (lv : Value) (C D m B : Nat) (w0 w : World) (hm : l.length = m) (hm5 : m ≤ 100000) (hokl : ∀ n ∈ l, NdOk n) (hkl : ∀ n ∈ l, n.kids.length < 1000000) (hDn : Done l i)
    (hS : Still w0 lv l) (hB0 : w0.heap.size ≤ B) (hB : Below B w0 w) (hBC : B ≤ C) (hBD : B ≤ D) (hC : Has w C 51 [lv, .slice (some ⟨D, 0, none⟩) m m]) (hD : Has w D 4 (u.map Value.bool)) :
    Calls Tryz.prog 24 #[.pointer (some ⟨C, 0, none⟩), .int .i64 (i : Int)] w (NodeIs l i l[i] u w0 B C D lv m) := by
  have HOl := Lib.hid hokl
  have HDn := Lib.hid hDn
  have hBw : B ≤ w.heap.size := Nat.le_trans hBC (Nat.le_of_lt hC.lt)
  have hnd := hS.nds
  obtain ⟨al, cl, rfl⟩ := hnd.shape
  obtain ⟨b, o, kv, rfl, hb2, d0, d1, d2, d3, d4⟩ := hnd.at i hi
  obtain ⟨av, cv, rfl⟩ := d4.shape
  have hcp := hS.cap b o _ cl rfl i hi _ _ _ d2
  have hx := hokl _ (List.getElem_mem hi)
  have hxk := hkl _ (List.getElem_mem hi)
  have HSt := Lib.hid hS
  have HSo := Lib.hid (@step_own l i l[i] u)
  have HOk := Lib.hid (@own_kind l l[i])
  have HOr := Lib.hid (@own_rest l l[i])
  have HT : Hid (stepV l i l[i] u = match takeKids i l[i].kids u with | none => none | some u' => if ownB l l[i] = true then some u' else none) := Lib.hid rfl
  have hCk : ∀ W, Below B w0 W → Has W C 51 [.slice (some ⟨b, o, none⟩) l.length cl, .slice (some ⟨D, 0, none⟩) m m] → Ck W C (.slice (some ⟨b, o, none⟩) l.length cl) (.slice (some ⟨D, 0, none⟩) m m) l := fun W hb hc => ⟨hc, hnd.below hB0 hb⟩
  have HCk := Lib.hid hCk
  have HFacts : Hid (∀ W, Below B w0 W → Tt W ∧ Tk W) := Lib.hid fun W hb => ⟨(hS.tt).below (hb.mono hB0), (hS.tk).below hB0 hb⟩
  clear hnd HSt hS hCk
  generalize l[i] = x at d0 d1 d2 d3 d4 hx hxk hcp HSo HOk HOr HT ⊢
  obtain ⟨x0, x1, ks, x3⟩ := x
  simp only at d0 d1 d2 d3 d4 hx hxk hcp HOk HOr HT
  have hks : ks.length ≤ 140737488355328 := hx.2.1
  have hxt : x1.size ≤ 140737488355328 := hx.1
  have HX := Lib.hid hx
  have HKd := Lib.hid (fun (W : World) (h : Below B w0 W) => d4.below hB0 h)
  have c0 := hC.cell 0
  have c1 := hC.cell 1
  have cl0 := hC.lt
  simp only [List.getElem?_cons_succ, List.getElem?_cons_zero] at c0 c1
  have g0 := (hB.cell (p := ⟨b, _, none⟩) (show b < B by omega)).trans d0
  have g1 := (hB.cell (p := ⟨b, _, none⟩) (show b < B by omega)).trans d1
  have g2 := (hB.cell (p := ⟨b, _, none⟩) (show b < B by omega)).trans d2
  have g3 := (hB.cell (p := ⟨b, _, none⟩) (show b < B by omega)).trans d3
  have gl : b < w.heap.size := by omega
  have hii : (i : Int) < (l.length : Int) := by omega
  have hi0 : (0 : Int) ≤ (i : Int) := by omega
  have HB : Hid (Below B w0 (w.alloc (.cells #[.int .i64 x0, .string x1, .slice av ks.length cv, .int .i64 x3] 35))) := Lib.hid (hB.alloc hBw _)
  have hAl : Below w.heap.size w (w.alloc (.cells #[.int .i64 x0, .string x1, .slice av ks.length cv, .int .i64 x3] 35)) := (Below.refl _ w).alloc (Nat.le_refl _) _
  have HC1 := Lib.hid (hC.below hAl hC.lt)
  have HD1 := Lib.hid (hD.below hAl hD.lt)
  have hN := Has.new w 35 [.int .i64 x0, .string x1, .slice av ks.length cv, .int .i64 x3]
  have HMy := fun W => Lib.hid (must_yes (i : Int) W)
  have HMn := fun W => Lib.hid (must_no (i : Int) W)
  by_cases hkind : 1 ≤ x0 ∧ x0 ≤ 36 ∧ 0 ≤ x3
  · obtain ⟨k1, k2, k3⟩ := hkind
    have hown := HOr.out ⟨k1, k2, k3⟩
    have HOwn := Lib.hid hown
    clear hown HOr HOk d0 d1 d2 d3 d4 hx hAl hC hD
    go_enter Tryz.func24, Tryz.ntmps24
    go_wp2_with fail
    refine ((HMy _).out).mono ?_
    rintro e w1 ⟨rfl, hw⟩
    subst hw
    generalize hW : World.alloc w (.cells #[.int .i64 x0, .string x1, .slice av ks.length cv, .int .i64 x3] 35) = w1 at HB HC1 HD1 hN ⊢
    generalize hNe : w.heap.size = N at hN ⊢
    have hBN : B ≤ N := by omega
    have n2 := hN.cell 2
    have nl := hN.lt
    simp only [List.getElem?_cons_succ, List.getElem?_cons_zero] at n2
    have HN := Lib.hid hN
    clear hW hN g0 g1 g2 g3 gl c0 c1 cl0 hB
    obtain ⟨T0, hT0⟩ : ∃ T0, takeKids i ks u = T0 := ⟨_, rfl⟩
    rw [hT0] at HT
    obtain ⟨nk, hnk⟩ : ∃ nk, ks.length = nk := ⟨_, rfl⟩
    have HNk := Lib.hid hnk
    rw [hnk] at HN n2 hks hxk hcp ⊢
    have HT1 : Hid (takeKids i (ks.drop 0) u = T0) := Lib.hid hT0
    have hum : u.length = m := by omega
    have HKv : Hid (T0 ≠ none → ∀ y ∈ ks, 0 ≤ y ∧ y < (i : Int)) := Lib.hid fun h => by
      cases hT : T0 with
      | none => exact absurd hT h
      | some v => exact take_kids (hT0.trans hT)
    clear hT0 hnk hu
    go_wp2
    go_loopw [32] (fun iv wr => ∃ (k : Nat) (v : List Bool), iv = .int .i64 (k : Int) ∧ k ≤ nk ∧ v.length = m ∧ Below B w0 wr ∧ Hid (Has wr C 51 [.slice (some ⟨b, o, none⟩) l.length cl, .slice (some ⟨D, 0, none⟩) m m]) ∧ Hid (Has wr D 4 (v.map Value.bool)) ∧ Hid (Has wr N 35 [.int .i64 x0, .string x1, .slice av nk cv, .int .i64 x3]) ∧ Hid (takeKids i (ks.drop k) v = T0)) (fun iv _ => nk - (intOf iv).toNat)
    case atStart => exact ⟨0, u, rfl, by omega, hum, HB.out, HC1, HD1, HN, HT1⟩
    case round =>
      obtain ⟨k, v, rfl, hk, hvm, hBr, HCr, HDr, HNr, HTr⟩ := hrel
      have HBr := Lib.hid hBr
      clear hBr
      by_cases hlt : k < nk
      · have hk1 : (k : Int) < (nk : Int) := by omega
        have hkl2 : k < ks.length := by rw [HNk.out]; exact hlt
        have hkv := HKd.out _ HBr.out
        rw [HNk.out] at hkv
        obtain ⟨g, o2, hg1, hg2, z0⟩ := hkv.at k hkl2
        subst hg1
        have c0 := HCr.out.cell 0
        have c1 := HCr.out.cell 1
        have cl0 := HCr.out.lt
        simp only [List.getElem?_cons_succ, List.getElem?_cons_zero] at c0 c1
        have HYes : Hid (∀ q : Nat, ks[k] = (q : Int) → q < i → v.getD q false = false → takeKids i (ks.drop (k + 1)) (v.set q true) = T0) := Lib.hid fun q h1 h2 h3 => by rw [← HTr.out, take_drop_yes hkl2 h1 h2 h3]
        have HNo : Hid (¬ (0 ≤ ks[k] ∧ ks[k] < (i : Int) ∧ v.getD ks[k].toNat false = false) → T0 = none) := Lib.hid fun h => by rw [← HTr.out, take_drop_no hkl2 h]
        generalize ks[k] = y at z0 HYes HNo
        by_cases hin : 0 ≤ y ∧ y < (i : Int)
        · obtain ⟨q, rfl⟩ : ∃ q : Nat, y = (q : Int) := ⟨y.toNat, by omega⟩
          have hq0 : (0 : Int) ≤ (q : Int) := by omega
          have hqi : (q : Int) < (i : Int) := by omega
          have hqm : (q : Int) < (m : Int) := by omega
          have hqv : q < v.length := by omega
          have db := (HDr.out.cell q).trans (bools_get hqv)
          have df := HDr.out.frozen q
          have dl := HDr.out.lt
          simp only [Int.toNat_natCast] at HNo
          obtain ⟨vb, hvb⟩ : ∃ vb, v.getD q false = vb := ⟨_, rfl⟩
          rw [hvb] at db HNo
          cases vb
          · have HT2 := Lib.hid (HYes.out q rfl (by omega) hvb)
            have hND : N ≠ D := HNr.out.ne HDr.out (by decide +kernel)
            have hCD : C ≠ D := HCr.out.ne HDr.out (by decide +kernel)
            have HB2 : Hid (Below B w0 (wr.setCell ⟨D, q, none⟩ (.bool true))) := Lib.hid (HBr.out.setCell (p := ⟨D, q, none⟩) hBD _)
            have HC2 : Hid (Has (wr.setCell ⟨D, q, none⟩ (.bool true)) C 51 [.slice (some ⟨b, o, none⟩) l.length cl, .slice (some ⟨D, 0, none⟩) m m]) := Lib.hid (HCr.out.keeps (Keeps.set _ D q _) (by simpa using hCD))
            have HN2 : Hid (Has (wr.setCell ⟨D, q, none⟩ (.bool true)) N 35 [.int .i64 x0, .string x1, .slice (some ⟨g, o2, none⟩) nk cv, .int .i64 x3]) := Lib.hid (HNr.out.keeps (Keeps.set _ D q _) (by simpa using hND))
            have HD2 : Hid (Has (wr.setCell ⟨D, q, none⟩ (.bool true)) D 4 ((v.set q true).map Value.bool)) := Lib.hid (by
              rw [List.map_set]
              exact HDr.out.set q (.bool true))
            have hvm2 : (v.set q true).length = m := by rw [List.length_set]; exact hvm
            clear HYes HNo HTr hvb hND hCD
            go_wp2_with fail
            refine ((HMy _).out).mono ?_
            rintro e w2 ⟨rfl, hw⟩
            subst hw
            go_wp2
            go_roundw
            case rel => exact ⟨k + 1, v.set q true, by go_num, by omega, hvm2, HB2.out, HC2, HD2, HN2, HT2⟩
            case measure => simp [intOf]; omega
          · have hTn := HNo.out (by simp)
            subst hTn
            clear HYes HNo HTr hvb
            go_wp2_with fail
            refine ((HMn _).out).mono ?_
            rintro e w2 ⟨rfl, hw⟩
            subst hw
            go_wp2
            exact ⟨rfl, .bad HT.out rfl HBr.out⟩
        · have hTn := HNo.out (by intro h; exact hin ⟨h.1, h.2.1⟩)
          subst hTn
          have hy : ¬ (0 : Int) ≤ y ∨ ((0 : Int) ≤ y ∧ ¬ y < (i : Int)) := by omega
          clear HYes HNo HTr hin
          rcases hy with hy | ⟨hy, hy2⟩
          all_goals
            go_wp2_with fail
            refine ((HMn _).out).mono ?_
            rintro e w2 ⟨rfl, hw⟩
            subst hw
            go_wp2
            exact ⟨rfl, .bad HT.out rfl HBr.out⟩
      · have hkn : k = nk := by omega
        have hTs : T0 = some v := by
          rw [← HTr.out, List.drop_eq_nil_of_le (by rw [HNk.out]; omega)]
          rfl
        subst hkn hTs
        have HTe : Hid (stepV l i ⟨x0, x1, ks, x3⟩ u = if ownB l ⟨x0, x1, ks, x3⟩ = true then some v else none) := Lib.hid (by rw [HT.out])
        obtain ⟨z, rfl⟩ : ∃ z : Nat, x0 = (z : Int) := ⟨x0.toNat, by omega⟩
        have htake := HTr.out
        have HKs : Hid (∀ y ∈ ks, 0 ≤ y ∧ y < (i : Int)) := Lib.hid (HKv.out (by simp))
        have n0 := HNr.out.cell 0
        have n1 := HNr.out.cell 1
        have n2 := HNr.out.cell 2
        have n3 := HNr.out.cell 3
        have nl := HNr.out.lt
        simp only [List.getElem?_cons_succ, List.getElem?_cons_zero] at n0 n1 n2 n3
        have hkv := HKd.out _ HBr.out
        have hck := HCk.out _ HBr.out HCr.out
        obtain ⟨htt, htk⟩ := HFacts.out _ HBr.out
        have HFit := Lib.hid (kidsFit_any z (by omega) (by omega) x1 ks x3 _ l _ _ C wr htk hck.c hck.l hkv (fun y hy => by have := HKs.out y hy; omega) (by rw [HNk.out]; omega) (by omega))
        rw [HNk.out] at HFit
        obtain ⟨fb, hfb⟩ : ∃ fb, fitB (WANT.getD z []) (kindsOf l ks) = fb := ⟨_, rfl⟩
        rw [hfb] at HFit
        have HFb : Hid (fitB (WANT.getD ((z : Int)).toNat []) (kindsOf l ks) = fb) := Lib.hid (by rw [Int.toNat_natCast]; exact hfb)
        rw [HFb.out] at HOwn
        clear hfb hkv hck htt htk htake HTr HT
        go_wp2_with fail
        refine (HFit.out).mono ?_
        rintro e w2 ⟨rfl, hb⟩
        have HB2 := Lib.hid (HBr.out.trans (hb.mono (Nat.le_trans hBN (Nat.le_of_lt nl))))
        have HN2 := Lib.hid (HNr.out.below hb nl)
        have HC2 := Lib.hid (HCr.out.below hb HCr.out.lt)
        have HD2 := Lib.hid (HDr.out.below hb HDr.out.lt)
        clear hb n0 n1 n2 n3 nl HFit HBr HNr HCr HDr
        cases fb
        · have hnone : stepV l i ⟨(z : Int), x1, ks, x3⟩ u = none := by rw [HTe.out, HOwn.out]; rfl
          clear HFb
          go_wp2_with fail
          refine ((HMn _).out).mono ?_
          rintro e w3 ⟨rfl, hw⟩
          subst hw
          go_wp2
          exact ⟨rfl, .bad hnone rfl HB2.out⟩
        · have n0 := HN2.out.cell 0
          have n1 := HN2.out.cell 1
          have n2 := HN2.out.cell 2
          have n3 := HN2.out.cell 3
          have nl := HN2.out.lt
          simp only [List.getElem?_cons_succ, List.getElem?_cons_zero] at n0 n1 n2 n3
          have HTx := Lib.hid (textFits_any ⟨(z : Int), x1, ks, x3⟩ hxt (.slice av k cv) w2 (HFacts.out _ HB2.out).1)
          simp only at HTx
          obtain ⟨tb, htb⟩ : ∃ tb, textB ⟨(z : Int), x1, ks, x3⟩ = tb := ⟨_, rfl⟩
          rw [htb] at HTx HOwn
          clear htb
          go_wp2_with fail
          refine ((HMy _).out).mono ?_
          rintro e w3 ⟨rfl, hw⟩
          subst hw
          go_wp2_with fail
          refine (HTx.out).mono ?_
          rintro e w3 ⟨rfl, hb⟩
          have HB3 := Lib.hid (HB2.out.trans (hb.mono (Nat.le_trans hBN (Nat.le_of_lt nl))))
          have HN3 := Lib.hid (HN2.out.below hb nl)
          have HC3 := Lib.hid (HC2.out.below hb HC2.out.lt)
          have HD3 := Lib.hid (HD2.out.below hb HD2.out.lt)
          clear hb n0 n1 n2 n3 nl HTx HB2 HN2 HC2 HD2
          cases tb
          · have hnone : stepV l i ⟨(z : Int), x1, ks, x3⟩ u = none := by rw [HTe.out, HOwn.out]; rfl
            clear HFb
            go_wp2_with fail
            refine ((HMn _).out).mono ?_
            rintro e w4 ⟨rfl, hw⟩
            subst hw
            go_wp2
            exact ⟨rfl, .bad hnone rfl HB3.out⟩
          · have n0 := HN3.out.cell 0
            have n1 := HN3.out.cell 1
            have n2 := HN3.out.cell 2
            have n3 := HN3.out.cell 3
            have nl := HN3.out.lt
            simp only [List.getElem?_cons_succ, List.getElem?_cons_zero] at n0 n1 n2 n3
            have hck := HCk.out _ HB3.out HC3.out
            have hkv := HKd.out _ HB3.out
            have HRs := Lib.hid (rest_any ⟨(z : Int), x1, ks, x3⟩ _ _ _ l C i w3 hck hkv HDn.out (by omega) HKs.out (by simp only; rw [HNk.out]; exact hxk) (by omega) HOl.out (fun a n c h => by injection h with e1 e2 e3; rw [HNk.out] at e2; omega) HFb.out)
            simp only at HRs
            rw [HNk.out] at HRs
            obtain ⟨rb, hrb⟩ : ∃ rb, restB l ⟨(z : Int), x1, ks, x3⟩ = rb := ⟨_, rfl⟩
            rw [hrb] at HRs HOwn
            clear hrb hck hkv
            go_wp2_with fail
            refine ((HMy _).out).mono ?_
            rintro e w4 ⟨rfl, hw⟩
            subst hw
            go_wp2_with fail
            refine (HRs.out).mono ?_
            rintro e w4 ⟨rfl, hb⟩
            have HB4 := Lib.hid (HB3.out.trans (hb.mono (Nat.le_trans hBN (Nat.le_of_lt nl))))
            have HC4 := Lib.hid (HC3.out.below hb HC3.out.lt)
            have HD4 := Lib.hid (HD3.out.below hb HD3.out.lt)
            clear hb n0 n1 n2 n3 nl HRs HB3 HN3 HC3 HD3
            cases rb
            · have hnone : stepV l i ⟨(z : Int), x1, ks, x3⟩ u = none := by rw [HTe.out, HOwn.out]; rfl
              clear HFb
              go_wp2_with fail
              refine ((HMn _).out).mono ?_
              rintro e w5 ⟨rfl, hw⟩
              subst hw
              go_wp2
              exact ⟨rfl, .bad hnone rfl HB4.out⟩
            · have hsome : stepV l i ⟨(z : Int), x1, ks, x3⟩ u = some v := by rw [HTe.out, HOwn.out]; rfl
              clear HFb
              go_wp2_with fail
              refine ((HMy _).out).mono ?_
              rintro e w5 ⟨rfl, hw⟩
              subst hw
              go_wp2
              go_end0
              exact .good v hsome rfl HB4.out HC4.out HD4.out
  · have hown := HOk.out hkind
    have hnone := HSo.out hown
    have hkk : ¬ (1 : Int) ≤ x0 ∨ ((1 : Int) ≤ x0 ∧ ¬ x0 ≤ 36) ∨ ((1 : Int) ≤ x0 ∧ x0 ≤ 36 ∧ ¬ (0 : Int) ≤ x3) := by omega
    clear hown HOr HOk d0 d1 d2 d3 d4 hx hAl hC hD hkind HT
    rcases hkk with k1 | ⟨k1, k2⟩ | ⟨k1, k2, k3⟩
    all_goals
      go_enter Tryz.func24, Tryz.ntmps24
      go_wp2_with fail
      refine ((HMn _).out).mono ?_
      rintro e w1 ⟨rfl, hw⟩
      subst hw
      go_wp2
      exact ⟨rfl, .bad hnone rfl HB.out⟩
end TreeD
end Go.Proofs.YtakdmlaecidjaaaGreatDoor
