/- What neither kinds nor texts tell; a node that must be: the program's. -/
import Derived.Test.YtmdkocegnbcgmaaGreatDoorZ12
import Derived.Test.YtmdkocegnbcgmaaGreatDoorZ19
import Derived.Test.YtmdkocegnbcgmaaGreatDoorZ18
import Derived.Test.YtmdkocegnbcgmaaGreatDoorZ23
import Derived.Maps.AppendAt
namespace Go.Proofs.YtmdkocegnbcgmaaGreatDoor
open Go.RowKit ObjM
namespace TreeD

theorem must_yes (n : Int) (w : World) : Calls Tryz.prog 92 #[.bool true, .int .i64 n] w fun e w' => e = .returned (.tuple #[]) ∧ w = w' := by
  go_enter Tryz.func92, Tryz.ntmps92
  go_wp2
  go_end0
  exact ⟨rfl, rfl⟩
def panW (n : Int) : List PanicEntry := [{ v := .iface 85 (.agg #[.int .i64 n, .int .i64 60]), recovered := false }]
set_option maxRecDepth 100000 in
theorem must_no (n : Int) (w : World) : Calls Tryz.prog 92 #[.bool false, .int .i64 n] w fun e w' => e = .panicked (panW n) ∧ w = w' := by
  go_enter Tryz.func92, Tryz.ntmps92
  go_wp2
  exact ⟨rfl, rfl, rfl⟩
theorem fit_prog {ks : List Int} (h : fitB [99, 42, 98] ks = true) : 0 < ks.length ∧ ∀ k ∈ ks.dropLast, k = 2 := by
  have e : fitB [99, 42, 98] ks = rfitP [] (some 99) [98] ks := fit_one rfl rfl (fun m => by simp [expand]) ks
  rw [e, rfit_some] at h
  by_cases h1 : ks.length < ([] : List UInt8).length + ([98] : List UInt8).length
  · rw [if_pos h1] at h
    cases h
  · rw [if_neg h1] at h
    have hl : 0 < ks.length := by simp only [List.length_nil, List.length_cons] at h1; omega
    refine ⟨hl, ?_⟩
    have key : ∀ (m : Nat) (ks : List Int), allKids (List.replicate m 99 ++ [98]) ks = true → ∀ k ∈ ks.dropLast, k = 2 := by
      intro m
      induction m with
      | zero =>
        intro ks hk
        match ks, hk with
        | [k], _ => simp
        | [], hk => cases hk
        | a :: b :: r, hk =>
          have := allKids_len hk
          simp at this
      | succ m ih =>
        intro ks hk
        cases ks with
        | nil => cases hk
        | cons a r =>
          have h2 : (kidB 99 a && allKids (List.replicate m 99 ++ [98]) r) = true := hk
          rw [Bool.and_eq_true] at h2
          have ha : a = 2 := by simpa [kidB] using h2.1
          intro k hkm
          cases r with
          | nil => simp at hkm
          | cons b s =>
            rw [List.dropLast_cons_of_ne_nil (by simp)] at hkm
            rcases List.mem_cons.1 hkm with rfl | hkm
            · exact ha
            · exact ih _ h2.2 k hkm
    exact key _ ks (by simpa using h)
theorem fit_first {s : List UInt8} {ks : List Int} (h : fitB s ks = true) (hs : starB s = false) (h0 : 0 < s.length) : 0 < ks.length := by
  rw [fit_plain hs] at h
  have := allKids_len h
  omega
theorem map_dropLast (f : Int → Int) (ks : List Int) : (ks.map f).dropLast = ks.dropLast.map f := List.map_dropLast.symm
/-- What a node's slice of kids has behind its length. -/
def CapOk (W : World) (lv : Value) (l : List Nd) : Prop :=
  ∀ b o n c0, lv = .slice (some ⟨b, o, none⟩) n c0 → ∀ i, i < l.length → ∀ a m c, W.cell? ⟨b, o + i * 4 + 2, none⟩ = some (.slice a m c) → m ≤ c
set_option maxRecDepth 100000 in
set_option maxHeartbeats 8000000 in
theorem rest_any (x : Nd) (kv lv dv : Value) (l : List Nd) (C i : Nat) (w : World) (hC : Ck w C lv dv l) (hk : KidsAt w kv x.kids) (hD : Done l i) (hi : i ≤ l.length) (hkids : ∀ k ∈ x.kids, 0 ≤ k ∧ k < (i : Int)) (hkl : x.kids.length < 1000000) (hll : l.length ≤ 100000) (hokl : ∀ n ∈ l, NdOk n) (hcap : ∀ a n c, kv = .slice a n c → n ≤ c) (hfit : fitB (WANT.getD x.kind.toNat []) (kindsOf l x.kids) = true) :
    Calls Tryz.prog 95 #[.pointer (some ⟨C, 0, none⟩), .agg #[.int .i64 x.kind, .string x.text, kv, .int .i64 x.pos]] w fun e w' => e = .returned (.bool (restB l x)) ∧ Below w.heap.size w w' := by
  obtain ⟨x0, x1, ks, x3⟩ := x
  simp only at *
  have hok : ∀ k ∈ ks, 0 ≤ k ∧ k < (l.length : Int) := fun k h => by have := hkids k h; omega
  have hA : Below w.heap.size w (w.alloc (.cells #[.int .i64 x0, .string x1, kv, .int .i64 x3] 40)) := (Below.refl _ w).alloc (Nat.le_refl _) _
  have HA : Hid (Below w.heap.size w (w.alloc (.cells #[.int .i64 x0, .string x1, kv, .int .i64 x3] 40))) := Lib.hid hA
  have hsz : w.heap.size ≤ (w.alloc (.cells #[.int .i64 x0, .string x1, kv, .int .i64 x3] 40)).heap.size := hA.size
  have hC2 := hC.below hA
  have hk2 := hk.below (Nat.le_refl _) hA
  have hN := Has.new w 40 [.int .i64 x0, .string x1, kv, .int .i64 x3]
  obtain ⟨av, cv, rfl⟩ := hk.shape
  have hkn : (kindsOf l ks).length = ks.length := by simp [kindsOf]
  by_cases h1 : x0 = 1
  · subst h1
    obtain ⟨hp, hch⟩ := fit_prog hfit
    have hch2 : ∀ k ∈ ks.dropLast, chanB (ndAt l k).text = true := by
      intro k hkm
      have hk0 : kindAt l k = 2 := hch _ (by unfold kindsOf; rw [map_dropLast]; exact List.mem_map_of_mem hkm)
      have hkk := hkids k (List.dropLast_subset _ hkm)
      obtain ⟨q, rfl⟩ : ∃ q : Nat, k = (q : Int) := ⟨k.toNat, by omega⟩
      have hq : q < l.length := by omega
      have hg := (hD q l[q] (by omega) (List.getElem?_eq_getElem hq)).text
      rw [kindAt_q hq] at hk0
      rw [ndAt_q hq]
      unfold textB at hg
      rw [if_pos hk0] at hg
      exact hg
    have he : restB l ⟨1, x1, ks, x3⟩ = unlikeB (·.take 1) (textsOf l ks.dropLast) := by simp [restB]
    rw [he]
    have HR := Lib.hid (channels_any 1 x1 ks x3 _ lv dv l C _ hC2 hk2 hok hkl (by omega) hch2 hcap)
    generalize unlikeB (·.take 1) (textsOf l ks.dropLast) = R at HR ⊢
    clear hC2 hk2 hN hA hfit hch hch2 he hD hkids hok hC hk hcap
    go_enter Tryz.func95, Tryz.ntmps95
    go_wp2_with fail
    refine (HR.out).mono ?_
    rintro e w1 ⟨rfl, hb⟩
    have HB := Lib.hid (HA.out.trans (hb.mono hsz))
    clear hb
    go_wp2
    go_ret
    exact ⟨rfl, HB.out⟩
  · by_cases h3 : x0 = 3
    · subst h3
      have he : restB l ⟨3, x1, ks, x3⟩ = lastB l ks := by simp [restB]
      rw [he]
      have HR := Lib.hid (last_any 3 x1 ks x3 _ lv dv l C _ hC2 hk2 hok (by omega) hll)
      generalize lastB l ks = R at HR ⊢
      clear hC2 hk2 hN hA hfit he hD hkids hok hC hk hcap h1
      go_enter Tryz.func95, Tryz.ntmps95
      go_wp2_with fail
      refine (HR.out).mono ?_
      rintro e w1 ⟨rfl, hb⟩
      have HB := Lib.hid (HA.out.trans (hb.mono hsz))
      clear hb
      go_wp2
      go_ret
      exact ⟨rfl, HB.out⟩
    · by_cases h67 : x0 = 6 ∨ x0 = 7
      · have hp : 0 < ks.length := by
          rw [← hkn]
          rcases h67 with rfl | rfl
          · exact fit_first hfit rfl (by decide)
          · exact fit_first hfit rfl (by decide)
        obtain ⟨g, o, rfl, hg2, z0⟩ := hk2.at 0 hp
        have hy := hkids _ (List.getElem_mem hp)
        have hgd : ks.getD 0 0 = ks[0] := by simp [List.getD, hp]
        have he : restB l ⟨x0, x1, ks, x3⟩ = baseB l ks[0] := by
          rw [← hgd]
          unfold restB
          simp only
          rw [if_neg h1, if_neg h3, if_pos h67]
        rw [he]
        generalize ks[0] = y at z0 hy
        obtain ⟨q, rfl⟩ : ∃ q : Nat, y = (q : Int) := ⟨y.toNat, by omega⟩
        have HR := Lib.hid (base_any lv dv l C i q _ hC2 hD (by omega) hi hokl)
        generalize baseB l (q : Int) = R at HR ⊢
        have n2 := hN.cell 2
        have nl := hN.lt
        simp only [List.getElem?_cons_succ, List.getElem?_cons_zero] at n2
        simp only [Nat.add_zero] at z0
        have hp1 : (0 : Int) < (ks.length : Int) := by omega
        obtain ⟨m, hm⟩ : ∃ m, ks.length = m := ⟨_, rfl⟩
        have hsz2 := hsz
        clear hsz
        rw [hm] at HR HA hp1 z0 n2 nl hsz2 ⊢
        clear hC2 hk2 hN hA hfit he hD hkids hok hC hk hcap h1 h3 hgd hkn hp hm
        rcases h67 with rfl | rfl
        all_goals
          go_enter Tryz.func95, Tryz.ntmps95
          go_wp2_with fail
          refine (HR.out).mono ?_
          rintro e w1 ⟨rfl, rfl⟩
          go_wp2
          go_ret
          exact ⟨rfl, HA.out⟩
      · have h6 : ¬ x0 = 6 := fun e => h67 (.inl e)
        have h7 : ¬ x0 = 7 := fun e => h67 (.inr e)
        by_cases h21 : x0 = 21
        · subst h21
          have he : restB l ⟨21, x1, ks, x3⟩ = argsB l ⟨21, x1, ks, x3⟩ := by simp [restB]
          rw [he]
          have HR := Lib.hid (args_any ⟨21, x1, ks, x3⟩ _ lv dv l C _ hC2 hk2 hok (by simp only; omega) hokl)
          simp only at HR
          generalize argsB l ⟨21, x1, ks, x3⟩ = R at HR ⊢
          clear hC2 hk2 hN hA hfit he hD hkids hok hC hk hcap h1 h3 h67
          go_enter Tryz.func95, Tryz.ntmps95
          go_wp2_with fail
          refine (HR.out).mono ?_
          rintro e w1 ⟨rfl, hb⟩
          have HB := Lib.hid (HA.out.trans (hb.mono hsz))
          clear hb
          go_wp2
          go_ret
          exact ⟨rfl, HB.out⟩
        · by_cases h32 : x0 = 32
          · subst h32
            have he : restB l ⟨32, x1, ks, x3⟩ = unlikeB id (textsOf l ks) := by simp [restB]
            rw [he]
            have HR := Lib.hid (unlike_any 32 x1 ks x3 _ lv dv l C _ hC2 hk2 hok hkl hokl)
            generalize unlikeB id (textsOf l ks) = R at HR ⊢
            clear hC2 hk2 hN hA hfit he hD hkids hok hC hk hcap h1 h3 h67
            go_enter Tryz.func95, Tryz.ntmps95
            go_wp2_with fail
            refine (HR.out).mono ?_
            rintro e w1 ⟨rfl, hb⟩
            have HB := Lib.hid (HA.out.trans (hb.mono hsz))
            clear hb
            go_wp2
            go_ret
            exact ⟨rfl, HB.out⟩
          · have he : restB l ⟨x0, x1, ks, x3⟩ = true := by simp [restB, h1, h3, h6, h7, h21, h32]
            rw [he]
            clear hC2 hk2 hN hA hfit he hD hkids hok hC hk hcap h67
            go_enter Tryz.func95, Tryz.ntmps95
            go_wp2
            go_ret
            exact ⟨rfl, HA.out⟩
end TreeD
end Go.Proofs.YtmdkocegnbcgmaaGreatDoor

namespace Go.Proofs.YtmdkocegnbcgmaaGreatDoor
open Go.RowKit ObjM
namespace TreeD

/-- What never changes: tables, nodes. -/
structure Still (W : World) (lv : Value) (l : List Nd) : Prop where
  tt : Tt W
  tk : Tk W
  nds : NdsAt W lv l
  cap : CapOk W lv l
/-- How a node's check comes out. -/
inductive NodeIs (l : List Nd) (i : Nat) (x : Nd) (u : List Bool) (w0 : World) (B C D : Nat) (lv : Value) (m : Nat) (e : Ending) (w' : World) : Prop
  | good (u' : List Bool) : stepV l i x u = some u' → e = .returned (.tuple #[]) → Below B w0 w' → Has w' C 88 [lv, .slice (some ⟨D, 0, none⟩) m m] → Has w' D 4 (u'.map Value.bool) → NodeIs l i x u w0 B C D lv m e w'
  | bad : stepV l i x u = none → e = .panicked (panW (i : Int)) → Below B w0 w' → NodeIs l i x u w0 B C D lv m e w'
theorem step_own {l : List Nd} {i : Nat} {x : Nd} {u : List Bool} (h : ownB l x = false) : stepV l i x u = none := by
  unfold stepV
  split
  · rfl
  · rw [h]
    rfl
theorem own_kind {l : List Nd} {x : Nd} (h : ¬ (1 ≤ x.kind ∧ x.kind ≤ 36 ∧ 0 ≤ x.pos)) : ownB l x = false := by
  cases e : ownB l x with
  | false => rfl
  | true =>
    unfold ownB at e
    simp only [Bool.and_eq_true, decide_eq_true_eq] at e
    exact absurd ⟨e.1, e.2.1, e.2.2.1⟩ h
theorem own_rest {l : List Nd} {x : Nd} (h : 1 ≤ x.kind ∧ x.kind ≤ 36 ∧ 0 ≤ x.pos) : ownB l x = (fitB (WANT.getD x.kind.toNat []) (kindsOf l x.kids) && (textB x && restB l x)) := by
  unfold ownB
  rw [decide_eq_true h.1, decide_eq_true h.2.1, decide_eq_true h.2.2]
  rfl
theorem take_drop_yes {n : Nat} {ks : List Int} {u : List Bool} {k q : Nat} (hk : k < ks.length) (he : ks[k] = (q : Int)) (hq : q < n) (hu : u.getD q false = false) : takeKids n (ks.drop k) u = takeKids n (ks.drop (k + 1)) (u.set q true) := by
  rw [List.drop_eq_getElem_cons hk, takeKids, he, if_pos ⟨by omega, by omega, by rw [Int.toNat_natCast]; exact hu⟩, Int.toNat_natCast]
theorem take_drop_no {n : Nat} {ks : List Int} {u : List Bool} {k : Nat} (hk : k < ks.length) (h : ¬ (0 ≤ ks[k] ∧ ks[k] < (n : Int) ∧ u.getD ks[k].toNat false = false)) : takeKids n (ks.drop k) u = none := by
  rw [List.drop_eq_getElem_cons hk, takeKids, if_neg h]
theorem bools_get {u : List Bool} {q : Nat} (hq : q < u.length) : (u.map Value.bool)[q]? = some (.bool (u.getD q false)) := by
  rw [List.getElem?_map, List.getElem?_eq_getElem hq]
  simp [List.getD, hq]
set_option maxRecDepth 100000 in
set_option maxHeartbeats 16000000 in
theorem node_any (l : List Nd) (i : Nat) (hi : i < l.length) (u : List Bool) (hu : u.length = l.length) (lv : Value) (C D m B : Nat) (w0 w : World) (hm : l.length = m) (hm5 : m ≤ 100000) (hokl : ∀ n ∈ l, NdOk n) (hkl : ∀ n ∈ l, n.kids.length < 1000000) (hDn : Done l i)
    (hS : Still w0 lv l) (hB0 : w0.heap.size ≤ B) (hB : Below B w0 w) (hBC : B ≤ C) (hBD : B ≤ D) (hC : Has w C 88 [lv, .slice (some ⟨D, 0, none⟩) m m]) (hD : Has w D 4 (u.map Value.bool)) :
    Calls Tryz.prog 61 #[.pointer (some ⟨C, 0, none⟩), .int .i64 (i : Int)] w (NodeIs l i l[i] u w0 B C D lv m) := by
  have HOl := Lib.hid hokl
  have HDn := Lib.hid hDn
  have hBw : B ≤ w.heap.size := Nat.le_trans hBC (Nat.le_of_lt hC.lt)
  have hnd := hS.nds
  obtain ⟨al, cl, rfl⟩ := hnd.shape
  obtain ⟨b, o, kv, rfl, hb2, d0, d1, d2, d3, d4⟩ := hnd.at i hi
  obtain ⟨av, cv, rfl⟩ := d4.shape
  have hcp := hS.cap b o _ cl rfl i hi _ _ _ d2
  have hx := hokl _ (List.getElem_mem hi)
  have hxk := hkl _ (List.getElem_mem hi)
  have HSt := Lib.hid hS
  have HSo := Lib.hid (@step_own l i l[i] u)
  have HOk := Lib.hid (@own_kind l l[i])
  have HOr := Lib.hid (@own_rest l l[i])
  have HT : Hid (stepV l i l[i] u = match takeKids i l[i].kids u with | none => none | some u' => if ownB l l[i] = true then some u' else none) := Lib.hid rfl
  have hCk : ∀ W, Below B w0 W → Has W C 88 [.slice (some ⟨b, o, none⟩) l.length cl, .slice (some ⟨D, 0, none⟩) m m] → Ck W C (.slice (some ⟨b, o, none⟩) l.length cl) (.slice (some ⟨D, 0, none⟩) m m) l := fun W hb hc => ⟨hc, hnd.below hB0 hb⟩
  have HCk := Lib.hid hCk
  have HFacts : Hid (∀ W, Below B w0 W → Tt W ∧ Tk W) := Lib.hid fun W hb => ⟨(hS.tt).below (hb.mono hB0), (hS.tk).below hB0 hb⟩
  clear hnd HSt hS hCk
  generalize l[i] = x at d0 d1 d2 d3 d4 hx hxk hcp HSo HOk HOr HT ⊢
  obtain ⟨x0, x1, ks, x3⟩ := x
  simp only at d0 d1 d2 d3 d4 hx hxk hcp HOk HOr HT
  have hks : ks.length ≤ 140737488355328 := hx.2.1
  have hxt : x1.size ≤ 140737488355328 := hx.1
  have HX := Lib.hid hx
  have HKd := Lib.hid (fun (W : World) (h : Below B w0 W) => d4.below hB0 h)
  have c0 := hC.cell 0
  have c1 := hC.cell 1
  have cl0 := hC.lt
  simp only [List.getElem?_cons_succ, List.getElem?_cons_zero] at c0 c1
  have g0 := (hB.cell (p := ⟨b, _, none⟩) (show b < B by omega)).trans d0
  have g1 := (hB.cell (p := ⟨b, _, none⟩) (show b < B by omega)).trans d1
  have g2 := (hB.cell (p := ⟨b, _, none⟩) (show b < B by omega)).trans d2
  have g3 := (hB.cell (p := ⟨b, _, none⟩) (show b < B by omega)).trans d3
  have gl : b < w.heap.size := by omega
  have hii : (i : Int) < (l.length : Int) := by omega
  have hi0 : (0 : Int) ≤ (i : Int) := by omega
  have HB : Hid (Below B w0 (w.alloc (.cells #[.int .i64 x0, .string x1, .slice av ks.length cv, .int .i64 x3] 40))) := Lib.hid (hB.alloc hBw _)
  have hAl : Below w.heap.size w (w.alloc (.cells #[.int .i64 x0, .string x1, .slice av ks.length cv, .int .i64 x3] 40)) := (Below.refl _ w).alloc (Nat.le_refl _) _
  have HC1 := Lib.hid (hC.below hAl hC.lt)
  have HD1 := Lib.hid (hD.below hAl hD.lt)
  have hN := Has.new w 40 [.int .i64 x0, .string x1, .slice av ks.length cv, .int .i64 x3]
  have HMy := fun W => Lib.hid (must_yes (i : Int) W)
  have HMn := fun W => Lib.hid (must_no (i : Int) W)
  by_cases hkind : 1 ≤ x0 ∧ x0 ≤ 36 ∧ 0 ≤ x3
  · obtain ⟨k1, k2, k3⟩ := hkind
    have hown := HOr.out ⟨k1, k2, k3⟩
    have HOwn := Lib.hid hown
    clear hown HOr HOk d0 d1 d2 d3 d4 hx hAl hC hD
    go_enter Tryz.func61, Tryz.ntmps61
    go_wp2_with fail
    refine ((HMy _).out).mono ?_
    rintro e w1 ⟨rfl, hw⟩
    subst hw
    generalize hW : World.alloc w (.cells #[.int .i64 x0, .string x1, .slice av ks.length cv, .int .i64 x3] 40) = w1 at HB HC1 HD1 hN ⊢
    generalize hNe : w.heap.size = N at hN ⊢
    have hBN : B ≤ N := by omega
    have n2 := hN.cell 2
    have nl := hN.lt
    simp only [List.getElem?_cons_succ, List.getElem?_cons_zero] at n2
    have HN := Lib.hid hN
    clear hW hN g0 g1 g2 g3 gl c0 c1 cl0 hB
    obtain ⟨T0, hT0⟩ : ∃ T0, takeKids i ks u = T0 := ⟨_, rfl⟩
    rw [hT0] at HT
    obtain ⟨nk, hnk⟩ : ∃ nk, ks.length = nk := ⟨_, rfl⟩
    have HNk := Lib.hid hnk
    rw [hnk] at HN n2 hks hxk hcp ⊢
    have HT1 : Hid (takeKids i (ks.drop 0) u = T0) := Lib.hid hT0
    have hum : u.length = m := by omega
    have HKv : Hid (T0 ≠ none → ∀ y ∈ ks, 0 ≤ y ∧ y < (i : Int)) := Lib.hid fun h => by
      cases hT : T0 with
      | none => exact absurd hT h
      | some v => exact take_kids (hT0.trans hT)
    clear hT0 hnk hu
    go_wp2
    go_loopw [32] (fun iv wr => ∃ (k : Nat) (v : List Bool), iv = .int .i64 (k : Int) ∧ k ≤ nk ∧ v.length = m ∧ Below B w0 wr ∧ Hid (Has wr C 88 [.slice (some ⟨b, o, none⟩) l.length cl, .slice (some ⟨D, 0, none⟩) m m]) ∧ Hid (Has wr D 4 (v.map Value.bool)) ∧ Hid (Has wr N 40 [.int .i64 x0, .string x1, .slice av nk cv, .int .i64 x3]) ∧ Hid (takeKids i (ks.drop k) v = T0)) (fun iv _ => nk - (intOf iv).toNat)
    case atStart => exact ⟨0, u, rfl, by omega, hum, HB.out, HC1, HD1, HN, HT1⟩
    case round =>
      obtain ⟨k, v, rfl, hk, hvm, hBr, HCr, HDr, HNr, HTr⟩ := hrel
      have HBr := Lib.hid hBr
      clear hBr
      by_cases hlt : k < nk
      · have hk1 : (k : Int) < (nk : Int) := by omega
        have hkl2 : k < ks.length := by rw [HNk.out]; exact hlt
        have hkv := HKd.out _ HBr.out
        rw [HNk.out] at hkv
        obtain ⟨g, o2, hg1, hg2, z0⟩ := hkv.at k hkl2
        subst hg1
        have c0 := HCr.out.cell 0
        have c1 := HCr.out.cell 1
        have cl0 := HCr.out.lt
        simp only [List.getElem?_cons_succ, List.getElem?_cons_zero] at c0 c1
        have HYes : Hid (∀ q : Nat, ks[k] = (q : Int) → q < i → v.getD q false = false → takeKids i (ks.drop (k + 1)) (v.set q true) = T0) := Lib.hid fun q h1 h2 h3 => by rw [← HTr.out, take_drop_yes hkl2 h1 h2 h3]
        have HNo : Hid (¬ (0 ≤ ks[k] ∧ ks[k] < (i : Int) ∧ v.getD ks[k].toNat false = false) → T0 = none) := Lib.hid fun h => by rw [← HTr.out, take_drop_no hkl2 h]
        generalize ks[k] = y at z0 HYes HNo
        by_cases hin : 0 ≤ y ∧ y < (i : Int)
        · obtain ⟨q, rfl⟩ : ∃ q : Nat, y = (q : Int) := ⟨y.toNat, by omega⟩
          have hq0 : (0 : Int) ≤ (q : Int) := by omega
          have hqi : (q : Int) < (i : Int) := by omega
          have hqm : (q : Int) < (m : Int) := by omega
          have hqv : q < v.length := by omega
          have db := (HDr.out.cell q).trans (bools_get hqv)
          have df := HDr.out.frozen q
          have dl := HDr.out.lt
          simp only [Int.toNat_natCast] at HNo
          obtain ⟨vb, hvb⟩ : ∃ vb, v.getD q false = vb := ⟨_, rfl⟩
          rw [hvb] at db HNo
          cases vb
          · have HT2 := Lib.hid (HYes.out q rfl (by omega) hvb)
            have hND : N ≠ D := HNr.out.ne HDr.out (by decide +kernel)
            have hCD : C ≠ D := HCr.out.ne HDr.out (by decide +kernel)
            have HB2 : Hid (Below B w0 (wr.setCell ⟨D, q, none⟩ (.bool true))) := Lib.hid (HBr.out.setCell (p := ⟨D, q, none⟩) hBD _)
            have HC2 : Hid (Has (wr.setCell ⟨D, q, none⟩ (.bool true)) C 88 [.slice (some ⟨b, o, none⟩) l.length cl, .slice (some ⟨D, 0, none⟩) m m]) := Lib.hid (HCr.out.keeps (Keeps.set _ D q _) (by simpa using hCD))
            have HN2 : Hid (Has (wr.setCell ⟨D, q, none⟩ (.bool true)) N 40 [.int .i64 x0, .string x1, .slice (some ⟨g, o2, none⟩) nk cv, .int .i64 x3]) := Lib.hid (HNr.out.keeps (Keeps.set _ D q _) (by simpa using hND))
            have HD2 : Hid (Has (wr.setCell ⟨D, q, none⟩ (.bool true)) D 4 ((v.set q true).map Value.bool)) := Lib.hid (by
              rw [List.map_set]
              exact HDr.out.set q (.bool true))
            have hvm2 : (v.set q true).length = m := by rw [List.length_set]; exact hvm
            clear HYes HNo HTr hvb hND hCD
            go_wp2_with fail
            refine ((HMy _).out).mono ?_
            rintro e w2 ⟨rfl, hw⟩
            subst hw
            go_wp2
            go_roundw
            case rel => exact ⟨k + 1, v.set q true, by go_num, by omega, hvm2, HB2.out, HC2, HD2, HN2, HT2⟩
            case measure => simp [intOf]; omega
          · have hTn := HNo.out (by simp)
            subst hTn
            clear HYes HNo HTr hvb
            go_wp2_with fail
            refine ((HMn _).out).mono ?_
            rintro e w2 ⟨rfl, hw⟩
            subst hw
            go_wp2
            exact ⟨rfl, .bad HT.out rfl HBr.out⟩
        · have hTn := HNo.out (by intro h; exact hin ⟨h.1, h.2.1⟩)
          subst hTn
          have hy : ¬ (0 : Int) ≤ y ∨ ((0 : Int) ≤ y ∧ ¬ y < (i : Int)) := by omega
          clear HYes HNo HTr hin
          rcases hy with hy | ⟨hy, hy2⟩
          all_goals
            go_wp2_with fail
            refine ((HMn _).out).mono ?_
            rintro e w2 ⟨rfl, hw⟩
            subst hw
            go_wp2
            exact ⟨rfl, .bad HT.out rfl HBr.out⟩
      · have hkn : k = nk := by omega
        have hTs : T0 = some v := by
          rw [← HTr.out, List.drop_eq_nil_of_le (by rw [HNk.out]; omega)]
          rfl
        subst hkn hTs
        have HTe : Hid (stepV l i ⟨x0, x1, ks, x3⟩ u = if ownB l ⟨x0, x1, ks, x3⟩ = true then some v else none) := Lib.hid (by rw [HT.out])
        obtain ⟨z, rfl⟩ : ∃ z : Nat, x0 = (z : Int) := ⟨x0.toNat, by omega⟩
        have htake := HTr.out
        have HKs : Hid (∀ y ∈ ks, 0 ≤ y ∧ y < (i : Int)) := Lib.hid (HKv.out (by simp))
        have n0 := HNr.out.cell 0
        have n1 := HNr.out.cell 1
        have n2 := HNr.out.cell 2
        have n3 := HNr.out.cell 3
        have nl := HNr.out.lt
        simp only [List.getElem?_cons_succ, List.getElem?_cons_zero] at n0 n1 n2 n3
        have hkv := HKd.out _ HBr.out
        have hck := HCk.out _ HBr.out HCr.out
        obtain ⟨htt, htk⟩ := HFacts.out _ HBr.out
        have HFit := Lib.hid (kidsFit_any z (by omega) (by omega) x1 ks x3 _ l _ _ C wr htk hck.c hck.l hkv (fun y hy => by have := HKs.out y hy; omega) (by rw [HNk.out]; omega) (by omega))
        rw [HNk.out] at HFit
        obtain ⟨fb, hfb⟩ : ∃ fb, fitB (WANT.getD z []) (kindsOf l ks) = fb := ⟨_, rfl⟩
        rw [hfb] at HFit
        have HFb : Hid (fitB (WANT.getD ((z : Int)).toNat []) (kindsOf l ks) = fb) := Lib.hid (by rw [Int.toNat_natCast]; exact hfb)
        rw [HFb.out] at HOwn
        clear hfb hkv hck htt htk htake HTr HT
        go_wp2_with fail
        refine (HFit.out).mono ?_
        rintro e w2 ⟨rfl, hb⟩
        have HB2 := Lib.hid (HBr.out.trans (hb.mono (Nat.le_trans hBN (Nat.le_of_lt nl))))
        have HN2 := Lib.hid (HNr.out.below hb nl)
        have HC2 := Lib.hid (HCr.out.below hb HCr.out.lt)
        have HD2 := Lib.hid (HDr.out.below hb HDr.out.lt)
        clear hb n0 n1 n2 n3 nl HFit HBr HNr HCr HDr
        cases fb
        · have hnone : stepV l i ⟨(z : Int), x1, ks, x3⟩ u = none := by rw [HTe.out, HOwn.out]; rfl
          clear HFb
          go_wp2_with fail
          refine ((HMn _).out).mono ?_
          rintro e w3 ⟨rfl, hw⟩
          subst hw
          go_wp2
          exact ⟨rfl, .bad hnone rfl HB2.out⟩
        · have n0 := HN2.out.cell 0
          have n1 := HN2.out.cell 1
          have n2 := HN2.out.cell 2
          have n3 := HN2.out.cell 3
          have nl := HN2.out.lt
          simp only [List.getElem?_cons_succ, List.getElem?_cons_zero] at n0 n1 n2 n3
          have HTx := Lib.hid (textFits_any ⟨(z : Int), x1, ks, x3⟩ hxt (.slice av k cv) w2 (HFacts.out _ HB2.out).1)
          simp only at HTx
          obtain ⟨tb, htb⟩ : ∃ tb, textB ⟨(z : Int), x1, ks, x3⟩ = tb := ⟨_, rfl⟩
          rw [htb] at HTx HOwn
          clear htb
          go_wp2_with fail
          refine ((HMy _).out).mono ?_
          rintro e w3 ⟨rfl, hw⟩
          subst hw
          go_wp2_with fail
          refine (HTx.out).mono ?_
          rintro e w3 ⟨rfl, hb⟩
          have HB3 := Lib.hid (HB2.out.trans (hb.mono (Nat.le_trans hBN (Nat.le_of_lt nl))))
          have HN3 := Lib.hid (HN2.out.below hb nl)
          have HC3 := Lib.hid (HC2.out.below hb HC2.out.lt)
          have HD3 := Lib.hid (HD2.out.below hb HD2.out.lt)
          clear hb n0 n1 n2 n3 nl HTx HB2 HN2 HC2 HD2
          cases tb
          · have hnone : stepV l i ⟨(z : Int), x1, ks, x3⟩ u = none := by rw [HTe.out, HOwn.out]; rfl
            clear HFb
            go_wp2_with fail
            refine ((HMn _).out).mono ?_
            rintro e w4 ⟨rfl, hw⟩
            subst hw
            go_wp2
            exact ⟨rfl, .bad hnone rfl HB3.out⟩
          · have n0 := HN3.out.cell 0
            have n1 := HN3.out.cell 1
            have n2 := HN3.out.cell 2
            have n3 := HN3.out.cell 3
            have nl := HN3.out.lt
            simp only [List.getElem?_cons_succ, List.getElem?_cons_zero] at n0 n1 n2 n3
            have hck := HCk.out _ HB3.out HC3.out
            have hkv := HKd.out _ HB3.out
            have HRs := Lib.hid (rest_any ⟨(z : Int), x1, ks, x3⟩ _ _ _ l C i w3 hck hkv HDn.out (by omega) HKs.out (by simp only; rw [HNk.out]; exact hxk) (by omega) HOl.out (fun a n c h => by injection h with e1 e2 e3; rw [HNk.out] at e2; omega) HFb.out)
            simp only at HRs
            rw [HNk.out] at HRs
            obtain ⟨rb, hrb⟩ : ∃ rb, restB l ⟨(z : Int), x1, ks, x3⟩ = rb := ⟨_, rfl⟩
            rw [hrb] at HRs HOwn
            clear hrb hck hkv
            go_wp2_with fail
            refine ((HMy _).out).mono ?_
            rintro e w4 ⟨rfl, hw⟩
            subst hw
            go_wp2_with fail
            refine (HRs.out).mono ?_
            rintro e w4 ⟨rfl, hb⟩
            have HB4 := Lib.hid (HB3.out.trans (hb.mono (Nat.le_trans hBN (Nat.le_of_lt nl))))
            have HC4 := Lib.hid (HC3.out.below hb HC3.out.lt)
            have HD4 := Lib.hid (HD3.out.below hb HD3.out.lt)
            clear hb n0 n1 n2 n3 nl HRs HB3 HN3 HC3 HD3
            cases rb
            · have hnone : stepV l i ⟨(z : Int), x1, ks, x3⟩ u = none := by rw [HTe.out, HOwn.out]; rfl
              clear HFb
              go_wp2_with fail
              refine ((HMn _).out).mono ?_
              rintro e w5 ⟨rfl, hw⟩
              subst hw
              go_wp2
              exact ⟨rfl, .bad hnone rfl HB4.out⟩
            · have hsome : stepV l i ⟨(z : Int), x1, ks, x3⟩ u = some v := by rw [HTe.out, HOwn.out]; rfl
              clear HFb
              go_wp2_with fail
              refine ((HMy _).out).mono ?_
              rintro e w5 ⟨rfl, hw⟩
              subst hw
              go_wp2
              go_end0
              exact .good v hsome rfl HB4.out HC4.out HD4.out
  · have hown := HOk.out hkind
    have hnone := HSo.out hown
    have hkk : ¬ (1 : Int) ≤ x0 ∨ ((1 : Int) ≤ x0 ∧ ¬ x0 ≤ 36) ∨ ((1 : Int) ≤ x0 ∧ x0 ≤ 36 ∧ ¬ (0 : Int) ≤ x3) := by omega
    clear hown HOr HOk d0 d1 d2 d3 d4 hx hAl hC hD hkind HT
    rcases hkk with k1 | ⟨k1, k2⟩ | ⟨k1, k2, k3⟩
    all_goals
      go_enter Tryz.func61, Tryz.ntmps61
      go_wp2_with fail
      refine ((HMn _).out).mono ?_
      rintro e w1 ⟨rfl, hw⟩
      subst hw
      go_wp2
      exact ⟨rfl, .bad hnone rfl HB.out⟩
end TreeD
end Go.Proofs.YtmdkocegnbcgmaaGreatDoor
namespace Go.Proofs.YtmdkocegnbcgmaaGreatDoor
open Go.RowKit ObjM
namespace TreeD

noncomputable def checkV (l : List Nd) : Int × Int :=
  match goV l 0 l (List.replicate l.length false) with
  | .inl i => ((i : Int), 60)
  | .inr u => if l = [] then (0, 60) else if wholeB l u = false then ((l.length : Int) - 1, 60) else if 200 < deepV l then (0, 61) else (0, 0)

set_option maxRecDepth 100000 in
set_option maxHeartbeats 1000000 in
theorem wrongOf_any (at_ er : Int) (w : World) :
    Calls Tryz.prog 60 #[.iface 85 (.agg #[.int .i64 at_, .int .i64 er])] w fun e w' => e = .returned (.agg #[.int .i64 at_, .int .i64 er]) ∧ Below w.heap.size w w' := by
  have hta : ∀ W, (Instr.typeAssert (.iface 85 (.agg #[.int .i64 at_, .int .i64 er])) 20 85 true).run Tryz.prog W = .ok (.tuple #[.agg #[.int .i64 at_, .int .i64 er], .bool true]) W := by intro W; kernel_rfl
  go_enter Tryz.func60, Tryz.ntmps60
  go_wp2
  refine bodyPost_ret (v := .agg #[.int .i64 at_, .int .i64 er]) (by simp [results, Tryz.results60, go_sem]) rfl ⟨rfl, ?_⟩
  repeat (first | exact Below.refl _ _ | refine Below.alloc ?_ (by simp) _ | refine Below.setCell ?_ (by simp) _)
theorem tCatch_end {w w1 : World} {Q R B : Nat} {q0 r0 : Value} {p er : Int} (hQ : Has w Q 3 [q0]) (hR : Has w R 34 [r0])
    (hk : KeepsT [] w w1) (hb : Below B w w1) (h2 : B ≤ Q) (h3 : B ≤ R) :
    Below B w ((w1.setCell ⟨Q, 0, none⟩ (.int .i64 p)).setCell ⟨R, 0, none⟩ (.int .i64 er)) ∧
    Has ((w1.setCell ⟨Q, 0, none⟩ (.int .i64 p)).setCell ⟨R, 0, none⟩ (.int .i64 er)) Q 3 [.int .i64 p] ∧
    Has ((w1.setCell ⟨Q, 0, none⟩ (.int .i64 p)).setCell ⟨R, 0, none⟩ (.int .i64 er)) R 34 [.int .i64 er] := by
  have nQR : Q ≠ R := hQ.ne hR (by decide +kernel)
  have q1 := (hQ.keepsT hk (by simp)).set 0 (.int .i64 p)
  have r1 := hR.keepsT hk (by simp)
  refine ⟨(hb.setCell h2 _).setCell h3 _, ?_, ?_⟩
  · exact q1.keeps (Keeps.set _ R 0 _) (by simpa using nQR)
  · exact (r1.keeps (Keeps.set _ Q 0 _) (by simpa using nQR.symm)).set 0 _
set_option maxRecDepth 100000 in
set_option maxHeartbeats 2000000 in
theorem tCatch_panicking (Q R B : Nat) (p : Int) (q0 r0 : Value) (w : World)
    (hQ : Has w Q 3 [q0]) (hR : Has w R 34 [r0]) (hB : B ≤ Q ∧ B ≤ R) (hBw : B ≤ w.heap.size) :
    CallsD Tryz.prog 59 #[.pointer (some ⟨Q, 0, none⟩), .pointer (some ⟨R, 0, none⟩)] (.panicking (panW p)) w fun e u' w' =>
      e = .returned (.tuple #[]) ∧ u' = .panicking [{ v := .iface 85 (.agg #[.int .i64 p, .int .i64 60]), recovered := true }] ∧ Below B w w' ∧
      Has w' Q 3 [.int .i64 p] ∧ Has w' R 34 [.int .i64 60] := by
  have HW := fun W => Lib.hid (wrongOf_any p 60 W)
  have nQR : Q ≠ R := hQ.ne hR (by decide +kernel)
  refine callsD_of_wpS Tryz.func59 rfl fun c₀ cs hu => ?_
  apply wpS_seq
  apply wpS_region
  simp [wpOpsS, go_sem, recoverD, hu, panW, Tryz.ntmps59, Exit.thenS]
  apply wpS_seq
  apply wpS_region
  simp [wpOpsS, go_sem, Exit.thenS]
  refine wpS_cond (t := true) (by simp [Act.eval, Array.replicate]) ?_
  simp only [if_true]
  refine wpS_of_wp ?_
  go_wp2_with fail
  refine ((HW _).out).mono ?_
  rintro e w1 ⟨rfl, hb1⟩
  have hK1 : KeepsT [] w w1 := KeepsT.below hb1 []
  have q1 := hQ.keepsT hK1 (by simp)
  have r1 := hR.keepsT hK1 (by simp)
  have HA := Lib.hid (Has.new w1 85 [.int .i64 p, .int .i64 60])
  have qc := q1.cell 0
  have rc := r1.cell 0
  have qf := q1.frozen 0
  have rf := r1.frozen 0
  have ql := q1.lt
  have rl := r1.lt
  simp at qc rc
  have HK1 := Lib.hid hK1
  have HB1 := Lib.hid (hb1.mono hBw)
  have HEnd := Lib.hid (fun (W : World) (hk : KeepsT [] w W) (hb : Below B w W) => tCatch_end (p := p) (er := 60) hQ hR hk hb hB.1 hB.2)
  clear hK1 hb1 q1 r1
  go_wp2
  go_region_with (fail)
  all_goals
    refine ⟨rfl, _, rfl, _, by simp [results, Tryz.results59, go_sem], rfl, rfl, ?_⟩
    have hw := HEnd.out w1 HK1.out HB1.out
    have hz := hw.2.1.lt
    exact ⟨(hw.1.alloc (Nat.le_trans hBw hw.1.size) _).drew, ((hw.2.1.keepsT ((KeepsT.refl [] _).alloc _) (by simp)).keeps (Keeps.drewN [] _ 1) (by simp)), ((hw.2.2.keepsT ((KeepsT.refl [] _).alloc _) (by simp)).keeps (Keeps.drewN [] _ 1) (by simp))⟩
def wholeFrom (l : List Nd) (u : List Bool) (k : Nat) : Bool := (List.range' k (l.length - 1 - k)).all fun n => u.getD n false && !decide (kindAt l n = 1)
theorem whole_start (l : List Nd) (u : List Bool) : wholeB l u = (decide (kindAt l ((l.length : Int) - 1) = 1) && wholeFrom l u 0) := by
  unfold wholeB wholeFrom
  rw [List.range_eq_range', Nat.sub_zero]
theorem whole_step {l : List Nd} {u : List Bool} {k : Nat} (h : k < l.length - 1) : wholeFrom l u k = ((u.getD k false && !decide (kindAt l k = 1)) && wholeFrom l u (k + 1)) := by
  unfold wholeFrom
  obtain ⟨q, hq⟩ : ∃ q, l.length - 1 - k = q + 1 := ⟨l.length - 1 - k - 1, by omega⟩
  have hq2 : l.length - 1 - (k + 1) = q := by omega
  rw [hq, hq2, List.range'_succ, List.all_cons]
theorem whole_end {l : List Nd} {u : List Bool} {k : Nat} (h : ¬ k < l.length - 1) : wholeFrom l u k = true := by
  unfold wholeFrom
  have : l.length - 1 - k = 0 := by omega
  rw [this]
  rfl
def WholeIs (l : List Nd) (u : List Bool) (w : World) (e : Ending) (w' : World) : Prop :=
  w = w' ∧ ((l ≠ [] ∧ wholeB l u = true ∧ e = .returned (.tuple #[])) ∨ (l = [] ∧ e = .panicked (panW 0)) ∨ (l ≠ [] ∧ wholeB l u = false ∧ e = .panicked (panW ((l.length : Int) - 1))))
set_option maxRecDepth 100000 in
set_option maxHeartbeats 8000000 in
theorem whole_any (l : List Nd) (u : List Bool) (hu : u.length = l.length) (lv : Value) (C D m : Nat) (w : World) (hm : l.length = m) (hm5 : m ≤ 100000) (hl : NdsAt w lv l) (hC : Has w C 88 [lv, .slice (some ⟨D, 0, none⟩) m m]) (hD : Has w D 4 (u.map Value.bool)) :
    Calls Tryz.prog 62 #[.pointer (some ⟨C, 0, none⟩)] w (WholeIs l u w) := by
  have HMy := fun n W => Lib.hid (must_yes n W)
  have HMn := fun n W => Lib.hid (must_no n W)
  obtain ⟨al, cl, rfl⟩ := hl.shape
  have c0 := hC.cell 0
  have c1 := hC.cell 1
  have cl0 := hC.lt
  have dl := hD.lt
  simp only [List.getElem?_cons_succ, List.getElem?_cons_zero] at c0 c1
  by_cases hz : l = []
  · subst hz
    have hm0 : m = 0 := by simpa using hm.symm
    subst hm0
    clear hC hD hl hm
    go_enter Tryz.func62, Tryz.ntmps62
    go_wp2_with fail
    refine ((HMn 0 _).out).mono ?_
    rintro e w1 ⟨rfl, hw⟩
    subst hw
    go_wp2
    exact ⟨rfl, rfl, .inr (.inl ⟨rfl, rfl⟩)⟩
  · have hpos : 0 < l.length := List.length_pos_iff.2 hz
    obtain ⟨q, hq⟩ : ∃ q, l.length = q + 1 := ⟨l.length - 1, by omega⟩
    have HL := Lib.hid hl
    have hqm : m = q + 1 := by omega
    subst hqm
    have HQ := Lib.hid hq
    have hql : q < l.length := by omega
    obtain ⟨b, o, kv, rfl, hb2, d0, -⟩ := hl.at q hql
    have hlast : kindAt l ((l.length : Int) - 1) = l[q].kind := by
      have : ((l.length : Int) - 1) = (q : Int) := by omega
      rw [this, kindAt_q hql]
    have HW := Lib.hid (whole_start l u)
    rw [hlast] at HW
    generalize l[q].kind = lk at d0 HW
    have hq1 : (q : Int) < (q : Int) + 1 := by omega
    have hq0 : (0 : Int) ≤ (q : Int) := by omega
    have HQ1 : Hid (((l.length : Int) - 1) = (q : Int)) := Lib.hid (by omega)
    have HDd := Lib.hid hD
    have hll : (l.length : Nat) = q + 1 := hq
    rw [hll] at c0
    have Hu := Lib.hid hu
    clear hC hD hlast hl hq hpos hm hll hu
    by_cases hlk : lk = 1
    · subst hlk
      simp only [decide_true, Bool.true_and] at HW
      obtain ⟨R, hR⟩ : ∃ R, wholeFrom l u 0 = R := ⟨_, rfl⟩
      rw [hR] at HW
      have HR := Lib.hid hR
      clear hR
      go_enter Tryz.func62, Tryz.ntmps62
      go_wp2_with fail
      refine ((HMy 0 _).out).mono ?_
      rintro e w1 ⟨rfl, hw⟩
      subst hw
      go_wp2_with fail
      refine ((HMy (q : Int) w).out).mono ?_
      rintro e w1 ⟨rfl, hw⟩
      subst hw
      clear d0
      go_wp2
      go_loopw [25] (fun iv wr => ∃ k : Nat, iv = .int .i64 (k : Int) ∧ k ≤ q ∧ Hid (wr = w) ∧ Hid (wholeFrom l u k = R)) (fun iv _ => q - (intOf iv).toNat)
      case atStart => exact ⟨0, rfl, by omega, Lib.hid rfl, HR⟩
      case round =>
        obtain ⟨k, rfl, hk, HWr, HRk⟩ := hrel
        obtain rfl := HWr.out
        clear HWr
        by_cases hlt : k < q
        · have hk1 : (k : Int) < (q : Int) := by omega
          have hkq1 : (k : Int) < (q : Int) + 1 := by omega
          have hk0 : (0 : Int) ≤ (k : Int) := by omega
          have hkl : k < l.length := by omega
          have hku : k < u.length := by have := Hu.out; omega
          obtain ⟨b2, o3, kv2, hb3, hb4, f0, -⟩ := HL.out.at k hkl
          injection hb3 with hb3
          injection hb3 with hb5 hb6
          subst hb5 hb6
          have db := (HDd.out.cell k).trans (bools_get hku)
          have HS : Hid (wholeFrom l u k = ((u.getD k false && !decide (l[k].kind = 1)) && wholeFrom l u (k + 1))) := Lib.hid (by
            rw [whole_step (by have := HQ.out; omega), kindAt_q hkl])
          generalize l[k].kind = kd at f0 HS
          obtain ⟨ub, hub⟩ : ∃ ub, u.getD k false = ub := ⟨_, rfl⟩
          rw [hub] at db HS
          clear hub
          cases ub
          · have hRf : R = false := by rw [← HRk.out, HS.out]; rfl
            subst hRf
            have hpost : WholeIs l u wr (.panicked (panW (q : Int))) wr := ⟨rfl, .inr (.inr ⟨hz, HW.out, by rw [HQ1.out]⟩)⟩
            clear HS HRk HW HR
            go_wp2_with fail
            refine ((HMn (q : Int) wr).out).mono ?_
            rintro e w1 ⟨rfl, hw⟩
            subst hw
            go_wp2
            exact ⟨rfl, hpost⟩
          · by_cases hkd : kd = 1
            · subst hkd
              have hRf : R = false := by rw [← HRk.out, HS.out]; rfl
              subst hRf
              have hpost : WholeIs l u wr (.panicked (panW (q : Int))) wr := ⟨rfl, .inr (.inr ⟨hz, HW.out, by rw [HQ1.out]⟩)⟩
              clear HS HRk HW HR
              go_wp2_with fail
              refine ((HMn (q : Int) wr).out).mono ?_
              rintro e w1 ⟨rfl, hw⟩
              subst hw
              go_wp2
              exact ⟨rfl, hpost⟩
            · have HR2 : Hid (wholeFrom l u (k + 1) = R) := Lib.hid (by rw [← HRk.out, HS.out, decide_eq_false hkd]; rfl)
              have hkb : (kd != 1) = true := by simp [hkd]
              clear HS HRk
              go_wp2_with fail
              refine ((HMy (q : Int) wr).out).mono ?_
              rintro e w1 ⟨rfl, hw⟩
              subst hw
              go_wp2
              go_roundw
              case rel => exact ⟨k + 1, by go_num, by omega, (by first | exact Lib.hid rfl | exact Lib.hid trivial), HR2⟩
              case measure => simp [intOf]; omega
        · have hkq : k = q := by omega
          have hRt : R = true := by rw [← HRk.out, whole_end (by have := HQ.out; omega)]
          subst hkq hRt
          have hpost : WholeIs l u wr (.returned (.tuple #[])) wr := ⟨rfl, .inl ⟨hz, HW.out, rfl⟩⟩
          go_wp2
          go_end0
          exact hpost
    · have hf : wholeB l u = false := by rw [HW.out, decide_eq_false hlk]; rfl
      have hlkb : (lk == 1) = false := by simp [hlk]
      have hpost : WholeIs l u w (.panicked (panW (q : Int))) w := ⟨rfl, .inr (.inr ⟨hz, hf, by rw [HQ1.out]⟩)⟩
      clear HW hf hlk
      go_enter Tryz.func62, Tryz.ntmps62
      go_wp2_with fail
      refine ((HMy 0 w).out).mono ?_
      rintro e w1 ⟨rfl, hw⟩
      subst hw
      go_wp2_with fail
      refine ((HMn (q : Int) w).out).mono ?_
      rintro e w1 ⟨rfl, hw⟩
      subst hw
      go_wp2
      exact ⟨rfl, hpost⟩
end TreeD
end Go.Proofs.YtmdkocegnbcgmaaGreatDoor

namespace Go.Proofs.YtmdkocegnbcgmaaGreatDoor
open Go.RowKit ObjM
namespace TreeD

theorem Still.below {w w' : World} {B : Nat} {lv : Value} {l : List Nd} (h : Still w lv l) (hB : w.heap.size ≤ B) (hb : Below B w w') : Still w' lv l := by
  refine ⟨h.tt.below (hb.mono hB), h.tk.below hB hb, h.nds.below hB hb, ?_⟩
  intro b o n c0 he i hi a m c hc
  subst he
  obtain ⟨b2, o2, kv, e1, e2, -, -, g2, -⟩ := h.nds.at i hi
  injection e1 with e1
  injection e1 with e3 e4
  subst e3 e4
  refine h.cap b o n c0 rfl i hi a m c ?_
  rw [← hc]
  exact (hb.cell (p := ⟨b, _, none⟩) (show b < B by omega)).symm
noncomputable def endV (l : List Nd) : Sum Nat (List Bool) → Int × Int
  | .inl i => ((i : Int), 60)
  | .inr u => if l = [] then (0, 60) else if wholeB l u = false then ((l.length : Int) - 1, 60) else if 200 < deepV l then (0, 61) else (0, 0)
theorem checkV_eq (l : List Nd) : checkV l = endV l (goV l 0 l (List.replicate l.length false)) := by
  unfold checkV endV
  rfl
def CheckIs (l : List Nd) (w : World) (e : Ending) (w' : World) : Prop := e = .returned (.tuple #[.int .i64 (checkV l).1, .int .i64 (checkV l).2]) ∧ Below w.heap.size w w'
theorem take_length {l : List Nd} {i : Nat} {x : Nd} {u u' : List Bool} (h : stepV l i x u = some u') : u'.length = u.length := take_len (step_good h).2
set_option maxRecDepth 100000 in
set_option maxHeartbeats 16000000 in
theorem check_any (l : List Nd) (lv : Value) (w : World) (hl5 : l.length ≤ 50000) (hokl : ∀ n ∈ l, NdOk n) (hkl : ∀ n ∈ l, n.kids.length < 1000000) (hS : Still w lv l) :
    Calls Tryz.prog 34 #[lv] w (CheckIs l w) := by
  obtain ⟨i0, hi, hz0, hz1, hz2⟩ := info_parts infoBool
  have hmf : ∀ (fn : Fn) (first cap : Array Value) (w : World), (Instr.makeFunc fn first cap).run Tryz.prog w = .ok (.func fn first cap) w := fun _ _ _ _ => rfl
  obtain ⟨m, hm⟩ : ∃ m, l.length = m := ⟨_, rfl⟩
  have HM := Lib.hid hm
  have HOl := Lib.hid hokl
  have HKl := Lib.hid hkl
  obtain ⟨al, cl, rfl⟩ := hS.nds.shape
  have r2 := Has.new w 3 [.int .i64 0]
  have hA1 : Below w.heap.size w (w.alloc (.cells #[.int .i64 0] 3)) := (Below.refl _ w).alloc (Nat.le_refl _) _
  have r3 := Has.new (w.alloc (.cells #[.int .i64 0] 3)) 34 [.int .i64 0]
  have hA2 : Below (w.heap.size + 1) (w.alloc (.cells #[.int .i64 0] 3)) ((w.alloc (.cells #[.int .i64 0] 3)).alloc (.cells #[.int .i64 0] 34)) := (Below.refl _ _).alloc (by simp) _
  have r2b := r2.below hA2 (by omega)
  have hBA : Below w.heap.size w ((w.alloc (.cells #[.int .i64 0] 3)).alloc (.cells #[.int .i64 0] 34)) := hA1.trans (hA2.mono (by omega))
  simp only [World.size_alloc] at r3
  have hsA : ((w.alloc (.cells #[.int .i64 0] 3)).alloc (.cells #[.int .i64 0] 34)).heap.size = w.heap.size + 1 + 1 := by simp
  have hSA := hS.below (Nat.le_refl _) hBA
  have hmi : ¬ (50000 : Int) < (m : Int) := by omega
  rw [hm] at hSA ⊢
  go_enter_defers Tryz.func34, Tryz.ntmps34
  go_wp2_with (at_make; refine wpList_make_full _ rfl _ _ 44 rfl (w.heap.size + 1 + 1) 4 i0 (.bool false) 1 Tryz.underlying44 hi hz0 hz1 .i64 .i64 (m : Int) (m : Int) m rfl rfl rfl rfl ?c1 ?c2 ?c3 ?_)
  case c1 => first | omega | (rw [hz2]; omega)
  case c2 => first | omega | (unfold maxLen; omega)
  intro w1 hrow hgrow
  have hD1 : Has w1 (w.heap.size + 1 + 1) 4 ((List.replicate m false).map Value.bool) := by
    rcases own_shape hrow with ⟨h, _⟩ | ⟨g, cap, cs, h1, h2, h3, h4, h5, h6, h7⟩
    · cases h
    · injection h1 with e1 e2 e3
      injection e1 with e1
      injection e1 with e1
      subst e1 e3
      rw [Nat.mul_one] at h6 h7
      rw [List.take_of_length_le (by omega)] at h7
      have h8 : (madeCells #[Value.bool false] m).toList = List.replicate m (.bool false) := toList_madeCells_one _ _
      have h9 : cs = List.replicate m (.bool false) := h7.trans h8
      rw [List.map_replicate, ← h9]
      exact h3
  have hg1 : Below (w.heap.size + 1 + 1) ((w.alloc (.cells #[.int .i64 0] 3)).alloc (.cells #[.int .i64 0] 34)) w1 := (Below.refl _ _).grown hgrow (by omega) (fun k hk => by cases hk)
  clear hrow hgrow hi hz0 hz1 hz2 r2 hA1 hA2 hS hokl hkl
  have hc := Has.new w1 88 [.slice al m cl, .slice (some ⟨w.heap.size + 1 + 1, 0, none⟩) m m]
  have hbc : Below w1.heap.size w1 (w1.alloc (.cells #[.slice al m cl, .slice (some ⟨w.heap.size + 1 + 1, 0, none⟩) m m] 88)) := (Below.refl _ w1).alloc (Nat.le_refl _) _
  have HD := Lib.hid (hD1.below hbc hD1.lt)
  have HC := Lib.hid hc
  have hs1 := hg1.size
  rw [hsA] at hs1
  have HB2 := Lib.hid (hg1.trans (hbc.mono (by omega)))
  clear hD1 hc hbc hg1
  have HBA := Lib.hid hBA
  have R2 := Lib.hid r2b
  have R3 := Lib.hid r3
  have HSA := Lib.hid hsA
  have HSt := Lib.hid hSA
  clear hBA r2b r3 hsA hSA
  generalize (w.alloc (.cells #[.int .i64 0] 3)).alloc (.cells #[.int .i64 0] 34) = wA at HBA R2 R3 HSA HSt HB2
  go_wp2
  change (Code.loop _).wp _ _ _ (World.alloc w1 _)
  generalize World.alloc w1 (.cells #[.slice al m cl, .slice (some ⟨w.heap.size + 1 + 1, 0, none⟩) m m] 88) = w2 at HC HD HB2 ⊢
  generalize w1.heap.size = C at HC hs1 ⊢
  obtain ⟨T0, hT0⟩ : ∃ T0, goV l 0 l (List.replicate m false) = T0 := ⟨_, rfl⟩
  have HV : Hid (checkV l = endV l T0) := Lib.hid (by rw [checkV_eq, HM.out, hT0])
  have HT0 : Hid (goV l 0 (l.drop 0) (List.replicate m false) = T0) := Lib.hid hT0
  clear hT0 hm
  go_loopw [17] (fun iv wr => ∃ (k : Nat) (u : List Bool), iv = .int .i64 (k : Int) ∧ k ≤ m ∧ u.length = m ∧ Below (w.heap.size + 1 + 1) wA wr ∧ Hid (Has wr C 88 [.slice al m cl, .slice (some ⟨w.heap.size + 1 + 1, 0, none⟩) m m]) ∧ Hid (Has wr (w.heap.size + 1 + 1) 4 (u.map Value.bool)) ∧ Hid (Done l k) ∧ Hid (goV l k (l.drop k) u = T0)) (fun iv _ => m - (intOf iv).toNat)
  case atStart => exact ⟨0, List.replicate m false, rfl, by omega, by simp, HB2.out, HC, HD, Lib.hid (fun i x h => by omega), HT0⟩
  case round =>
    obtain ⟨k, u, rfl, hk, hum, hBr, HCr, HDr, HDn, HTr⟩ := hrel
    have HBr := Lib.hid hBr
    have hsr := hBr.size
    rw [HSA.out] at hsr
    clear hBr
    by_cases hlt : k < m
    · have hk1 : (k : Int) < (m : Int) := by omega
      have hkl : k < l.length := by rw [HM.out]; exact hlt
      have HNd := Lib.hid (node_any l k hkl u (by rw [HM.out]; exact hum) (.slice al m cl) C (w.heap.size + 1 + 1) m (w.heap.size + 1 + 1) wA wr HM.out (by omega) HOl.out HKl.out HDn.out HSt.out (by rw [HSA.out]; exact Nat.le_refl _) HBr.out (by omega) (Nat.le_refl _) HCr.out HDr.out)
      have HGo := Lib.hid (go_cons l k hkl u)
      have HGx : Hid (l[k]? = some l[k]) := Lib.hid (List.getElem?_eq_getElem hkl)
      rw [HTr.out] at HGo
      generalize l[k] = x at HNd HGo HGx
      clear HTr HCr HDr
      go_wp2_with fail
      refine (HNd.out).mono ?_
      rintro e w3 (⟨u2, hs, rfl, hb, hc, hd⟩ | ⟨hs, rfl, hb⟩)
      · have HB3 := Lib.hid hb
        have HC3 := Lib.hid hc
        have HD3 := Lib.hid hd
        have hu2 : u2.length = m := by rw [take_length hs, hum]
        have HT3 : Hid (goV l (k + 1) (l.drop (k + 1)) u2 = T0) := Lib.hid (by rw [HGo.out, hs])
        have HDn3 := Lib.hid (HDn.out.next HGx.out (step_good hs).1)
        clear hb hc hd hs HGo HNd HGx HDn HBr
        go_wp2
        go_roundw
        case rel => exact ⟨k + 1, u2, by go_num, by omega, hu2, HB3.out, HC3, HD3, HDn3, HT3⟩
        case measure => simp [intOf]; omega
      · have HB3 := Lib.hid hb
        have hTe : T0 = .inl k := by rw [HGo.out, hs]
        subst hTe
        have hv : checkV l = ((k : Int), 60) := HV.out
        have Hv := Lib.hid hv
        clear hb hs HGo HNd HGx HDn HBr HV hv
        have r2 := R2.out.below HB3.out (by omega)
        have r3 := R3.out.below HB3.out (by omega)
        have hbw := HBA.out.trans (HB3.out.mono (show w.heap.size ≤ w.heap.size + 1 + 1 by omega))
        have HBw := Lib.hid hbw
        have HCt := Lib.hid (tCatch_panicking w.heap.size (w.heap.size + 1) w.heap.size (k : Int) _ _ w3 r2 r3 ⟨Nat.le_refl _, by omega⟩ hbw.size)
        clear r2 r3 hbw
        go_wp2
        refine leaves_cons (f := 59) (args := #[.pointer (some ⟨w.heap.size, 0, none⟩), .pointer (some ⟨w.heap.size + 1, 0, none⟩)]) (by simp) (by simp [go_sem]) ?_
        refine (HCt.out).mono ?_
        rintro e u' w'' ⟨rfl, rfl, hk, q1, q2⟩
        have c1 := q1.cell 0
        have c2 := q2.cell 0
        simp only [List.getElem?_cons_zero] at c1 c2
        have HEnd : Hid (Below w.heap.size w w'') := Lib.hid (HBw.out.trans hk)
        clear hk q1 q2
        simp [Leaves, settle, results, Tryz.results34, go_sem, c1, c2]
        exact ⟨by rw [Hv.out], HEnd.out⟩
    · have hkm : k = m := by omega
      subst hkm
      have hTe : T0 = .inr u := by
        rw [← HTr.out, List.drop_eq_nil_of_le (by rw [HM.out]; exact Nat.le_refl _)]
        rfl
      subst hTe
      have hV : checkV l = if l = [] then (0, 60) else if wholeB l u = false then ((l.length : Int) - 1, 60) else if 200 < deepV l then (0, 61) else (0, 0) := HV.out
      have HV2 := Lib.hid hV
      have hst := HSt.out.below (by rw [HSA.out]; exact Nat.le_refl _) HBr.out
      have HW := Lib.hid (whole_any l u (by rw [HM.out]; exact hum) (.slice al k cl) C (w.heap.size + 1 + 1) k wr HM.out (by omega) hst.nds HCr.out HDr.out)
      have HDp := Lib.hid (deep_any l _ wr hst.nds HOl.out (by rw [HM.out]; omega))
      clear hst hV HV HTr HDn
      go_wp2_with fail
      refine (HW.out).mono ?_
      rintro e w3 ⟨rfl, ⟨hz, hw, rfl⟩ | ⟨hz, rfl⟩ | ⟨hz, hw, rfl⟩⟩
      · go_wp2_with fail
        refine (HDp.out).mono ?_
        rintro e w5 ⟨rfl, hb5⟩
        have HB5 := Lib.hid (HBr.out.trans (hb5.mono hsr))
        have hv := HV2.out
        rw [if_neg hz, if_neg (by rw [hw]; decide)] at hv
        clear hb5 HV2 hw hz
        by_cases hd : 200 < deepV l
        · rw [if_pos hd] at hv
          have Hv := Lib.hid hv
          generalize deepV l = dv at hd ⊢
          clear hv
          have p0 := R2.out.below HB5.out (by omega)
          have p1 := R3.out.below HB5.out (by omega)
          have x0 := p0.cell 0
          have x1 := p1.cell 0
          have f0 := p0.frozen 0
          have f1 := p1.frozen 0
          have l0 := p0.lt
          have l1 := p1.lt
          simp only [List.getElem?_cons_zero] at x0 x1
          clear p0 p1
          have HEnd : Hid (Below w.heap.size w ((w5.setCell ⟨w.heap.size, 0, none⟩ (.int .i64 0)).setCell ⟨w.heap.size + 1, 0, none⟩ (.int .i64 61))) := Lib.hid (((HBA.out.trans (HB5.out.mono (by omega))).setCell (p := ⟨w.heap.size, 0, none⟩) (Nat.le_refl _) _).setCell (p := ⟨w.heap.size + 1, 0, none⟩) (by simp) _)
          go_wp2
          refine leaves_cons (f := 59) (args := #[.pointer (some ⟨w.heap.size, 0, none⟩), .pointer (some ⟨w.heap.size + 1, 0, none⟩)]) (by simp) (by simp [go_sem]) ?_
          refine (cCatch_idle _ _ _).mono ?_
          rintro e u' w'' ⟨rfl, rfl, rfl⟩
          simp [Leaves, settle, results, Tryz.results34, go_sem, x0, x1]
          exact ⟨by rw [Hv.out], HEnd.out⟩
        · rw [if_neg hd] at hv
          have Hv := Lib.hid hv
          generalize deepV l = dv at hd ⊢
          clear hv
          have p0 := R2.out.below HB5.out (by omega)
          have p1 := R3.out.below HB5.out (by omega)
          have x0 := p0.cell 0
          have x1 := p1.cell 0
          have f0 := p0.frozen 0
          have f1 := p1.frozen 0
          have l0 := p0.lt
          have l1 := p1.lt
          simp only [List.getElem?_cons_zero] at x0 x1
          clear p0 p1
          have HEnd : Hid (Below w.heap.size w ((w5.setCell ⟨w.heap.size, 0, none⟩ (.int .i64 0)).setCell ⟨w.heap.size + 1, 0, none⟩ (.int .i64 0))) := Lib.hid (((HBA.out.trans (HB5.out.mono (by omega))).setCell (p := ⟨w.heap.size, 0, none⟩) (Nat.le_refl _) _).setCell (p := ⟨w.heap.size + 1, 0, none⟩) (by simp) _)
          go_wp2
          refine leaves_cons (f := 59) (args := #[.pointer (some ⟨w.heap.size, 0, none⟩), .pointer (some ⟨w.heap.size + 1, 0, none⟩)]) (by simp) (by simp [go_sem]) ?_
          refine (cCatch_idle _ _ _).mono ?_
          rintro e u' w'' ⟨rfl, rfl, rfl⟩
          simp [Leaves, settle, results, Tryz.results34, go_sem, x0, x1]
          exact ⟨by rw [Hv.out], HEnd.out⟩
      · have hv := HV2.out
        rw [if_pos hz] at hv
        have Hv := Lib.hid hv
        clear hv HV2 HDp
        have r2 := R2.out.below HBr.out (by omega)
        have r3 := R3.out.below HBr.out (by omega)
        have hbw := HBA.out.trans (HBr.out.mono (show w.heap.size ≤ w.heap.size + 1 + 1 by omega))
        have HBw := Lib.hid hbw
        have HCt := Lib.hid (tCatch_panicking w.heap.size (w.heap.size + 1) w.heap.size 0 _ _ wr r2 r3 ⟨Nat.le_refl _, by omega⟩ hbw.size)
        clear r2 r3 hbw
        go_wp2
        refine leaves_cons (f := 59) (args := #[.pointer (some ⟨w.heap.size, 0, none⟩), .pointer (some ⟨w.heap.size + 1, 0, none⟩)]) (by simp) (by simp [go_sem]) ?_
        refine (HCt.out).mono ?_
        rintro e u' w'' ⟨rfl, rfl, hk, q1, q2⟩
        have c1 := q1.cell 0
        have c2 := q2.cell 0
        simp only [List.getElem?_cons_zero] at c1 c2
        have HEnd : Hid (Below w.heap.size w w'') := Lib.hid (HBw.out.trans hk)
        clear hk q1 q2
        simp [Leaves, settle, results, Tryz.results34, go_sem, c1, c2]
        exact ⟨by rw [show checkV [] = (0, 60) from hz ▸ Hv.out], HEnd.out⟩
      · have hv := HV2.out
        rw [if_neg hz, if_pos hw] at hv
        have Hv := Lib.hid hv
        clear hv HV2 HDp
        have r2 := R2.out.below HBr.out (by omega)
        have r3 := R3.out.below HBr.out (by omega)
        have hbw := HBA.out.trans (HBr.out.mono (show w.heap.size ≤ w.heap.size + 1 + 1 by omega))
        have HBw := Lib.hid hbw
        have HCt := Lib.hid (tCatch_panicking w.heap.size (w.heap.size + 1) w.heap.size ((l.length : Int) - 1) _ _ wr r2 r3 ⟨Nat.le_refl _, by omega⟩ hbw.size)
        clear r2 r3 hbw
        go_wp2
        refine leaves_cons (f := 59) (args := #[.pointer (some ⟨w.heap.size, 0, none⟩), .pointer (some ⟨w.heap.size + 1, 0, none⟩)]) (by simp) (by simp [go_sem]) ?_
        refine (HCt.out).mono ?_
        rintro e u' w'' ⟨rfl, rfl, hk, q1, q2⟩
        have c1 := q1.cell 0
        have c2 := q2.cell 0
        simp only [List.getElem?_cons_zero] at c1 c2
        have HEnd : Hid (Below w.heap.size w w'') := Lib.hid (HBw.out.trans hk)
        clear hk q1 q2
        simp [Leaves, settle, results, Tryz.results34, go_sem, c1, c2]
        exact ⟨by rw [Hv.out], HEnd.out⟩
end TreeD
end Go.Proofs.YtmdkocegnbcgmaaGreatDoor
namespace Go.Proofs.YtmdkocegnbcgmaaGreatDoor
open Go.RowKit ObjM
namespace ScD
open TreeD (Nd NdsAt ndAt kindAt)
/-- Whether a node of a kind stands in a node; loops: whether loops are open. -/
def holdsV (l : List Nd) (kind : Int) (loops : Bool) : Nat → Int → Bool
  | 0, _ => false
  | f + 1, n => decide (kindAt l n = kind) || (ndAt l n).kids.any fun k => (!decide (kindAt l k = 22) && (loops || !decide (kindAt l k = 9))) && holdsV l kind loops f k
/-- Whether a block surely ends in a return. -/
def endsV (l : List Nd) : Nat → Int → Bool
  | 0, _ => false
  | f + 1, n => !(decide (kindAt l n ≠ 3) || (ndAt l n).kids.isEmpty) && (decide (kindAt l ((ndAt l n).kids.getLastD 0) = 10) || (decide (kindAt l ((ndAt l n).kids.getLastD 0) = 8) && (endsV l f ((ndAt l ((ndAt l n).kids.getLastD 0)).kids.getD 1 0) && endsV l f ((ndAt l ((ndAt l n).kids.getLastD 0)).kids.getD 2 0))))
theorem holdsV_kid {l : List Nd} {kind : Int} {loops : Bool} {f : Nat} {n k : Int} (hk : k ∈ (ndAt l n).kids) (h22 : kindAt l k ≠ 22) (h9 : loops = true) (h : holdsV l kind loops f k = true) : holdsV l kind loops (f + 1) n = true := by
  subst h9
  unfold holdsV
  rw [Bool.or_eq_true, List.any_eq_true]
  exact .inr ⟨k, hk, by simp [h22, h]⟩
theorem holdsV_own {l : List Nd} {kind : Int} {loops : Bool} {f : Nat} {n : Int} (h : kindAt l n = kind) : holdsV l kind loops (f + 1) n = true := by
  unfold holdsV
  simp [h]
theorem holdsV_more {l : List Nd} {kind : Int} {loops : Bool} : ∀ (f : Nat) (n : Int), holdsV l kind loops f n = true → holdsV l kind loops (f + 1) n = true
  | 0, _, h => by simp [holdsV] at h
  | f + 1, n, h => by
    unfold holdsV at h
    rw [Bool.or_eq_true, List.any_eq_true] at h
    rcases h with h | ⟨k, hk, h⟩
    · exact holdsV_own (by simpa using h)
    · rw [Bool.and_eq_true] at h
      unfold holdsV
      rw [Bool.or_eq_true, List.any_eq_true]
      exact .inr ⟨k, hk, by rw [Bool.and_eq_true]; exact ⟨h.1, holdsV_more f k h.2⟩⟩
theorem last_mem {ks : List Int} (h : ks ≠ []) : ks.getLastD 0 ∈ ks := by
  cases ks with
  | nil => exact absurd rfl h
  | cons a r =>
    rw [List.getLastD_cons]
    cases r with
    | nil => simp
    | cons b t =>
      have : (b :: t).getLastD a = (b :: t).getLast (by simp) := by rw [List.getLastD_eq_getLast?, List.getLast?_eq_some_getLast (by simp)]; rfl
      rw [this]
      exact List.mem_cons_of_mem _ (List.getLast_mem _)
theorem any_same {p q : Int → Bool} : ∀ (ks : List Int), (∀ k ∈ ks, p k = q k) → ks.any p = ks.any q
  | [], _ => rfl
  | k :: ks, h => by
    rw [List.any_cons, List.any_cons, h k (by simp), any_same ks fun x hx => h x (by simp [hx])]
/-- More than the node's number of steps makes no difference. -/
theorem holdsV_enough {l : List Nd} {kind : Int} {loops : Bool} (hg : ∀ (n : Nat), ∀ k ∈ (ndAt l (n : Int)).kids, 0 ≤ k ∧ k < (n : Int)) : ∀ (n f : Nat), n < f → holdsV l kind loops f (n : Int) = holdsV l kind loops (n + 1) (n : Int) := by
  intro n
  induction n using Nat.strongRecOn with
  | ind n ih =>
    intro f hf
    obtain ⟨f, rfl⟩ : ∃ g, f = g + 1 := ⟨f - 1, by omega⟩
    unfold holdsV
    congr 1
    refine any_same _ fun k hk => ?_
    obtain ⟨h0, h1⟩ := hg n k hk
    obtain ⟨m, rfl⟩ : ∃ m : Nat, k = (m : Int) := ⟨k.toNat, by omega⟩
    congr 1
    rw [ih m (by omega) f (by omega), ih m (by omega) n (by omega)]
/-- A block that surely ends in a return has one in it. -/
theorem ends_holds {l : List Nd} (h3 : ∀ k, kindAt l k = 8 → (ndAt l k).kids.length = 3) : ∀ (f : Nat) (n : Int), endsV l f n = true → holdsV l 10 true (2 * f) n = true
  | 0, _, h => by simp [endsV] at h
  | f + 1, n, h => by
    unfold endsV at h
    simp only [Bool.and_eq_true, Bool.or_eq_true, Bool.not_eq_true', decide_eq_true_eq, Bool.or_eq_false_iff, decide_eq_false_iff_not] at h
    obtain ⟨⟨-, he⟩, h⟩ := h
    have hne : (ndAt l n).kids ≠ [] := by
      intro e
      rw [e] at he
      simp at he
    have hm := last_mem hne
    generalize (ndAt l n).kids.getLastD 0 = k at h hm
    show holdsV l 10 true (2 * f + 1 + 1) n = true
    rcases h with h | ⟨h8, h1, -⟩
    · exact holdsV_kid hm (by omega) rfl (holdsV_own h)
    · have hl := h3 k h8
      have hk1 : (ndAt l k).kids.getD 1 0 ∈ (ndAt l k).kids := by
        rw [List.getD_eq_getElem?_getD, List.getElem?_eq_getElem (show 1 < _ by omega), Option.getD_some]
        exact List.getElem_mem _
      have i1 := ends_holds h3 f _ h1
      have hb : kindAt l ((ndAt l k).kids.getD 1 0) = 3 := by
        cases f with
        | zero => simp [endsV] at h1
        | succ f =>
          unfold endsV at h1
          simp only [Bool.and_eq_true, Bool.or_eq_true, Bool.not_eq_true', decide_eq_true_eq, Bool.or_eq_false_iff, decide_eq_false_iff_not] at h1
          have := h1.1.1
          omega
      exact holdsV_kid hm (by omega) rfl (holdsV_kid hk1 (by omega) rfl i1)
end ScD
end Go.Proofs.YtmdkocegnbcgmaaGreatDoor
namespace Go.Proofs.YtmdkocegnbcgmaaGreatDoor
open Go.RowKit ObjM
namespace ScD
open TreeD (Nd NdsAt KidsAt ndAt kindAt)
theorem ndAt_of {l : List Nd} {n : Nat} (h : n < l.length) : ndAt l (n : Int) = l[n] := by
  unfold TreeD.ndAt
  rw [Int.toNat_natCast, List.getD_eq_getElem?_getD, List.getElem?_eq_getElem h, Option.getD_some]
def kidB (l : List Nd) (kind : Int) (loops : Bool) (f : Nat) (k : Int) : Bool := (!decide (kindAt l k = 22) && (loops || !decide (kindAt l k = 9))) && holdsV l kind loops f k
theorem holdsV_succ (l : List Nd) (kind : Int) (loops : Bool) (f : Nat) (n : Int) : holdsV l kind loops (f + 1) n = (decide (kindAt l n = kind) || (ndAt l n).kids.any (kidB l kind loops f)) := rfl
set_option maxRecDepth 100000 in
set_option maxHeartbeats 8000000 in
theorem rholds_any (l : List Nd) (lv : Value) (kind : Int) (loops : Bool) (hkl : ∀ n ∈ l, n.kids.length < 1000000) (hg : ∀ (n : Nat), ∀ k ∈ (ndAt l (n : Int)).kids, 0 ≤ k ∧ k < (n : Int)) (w : World) (hn : NdsAt w lv l) : ∀ (n : Nat), n < l.length →
    Calls Tryz.prog 19 #[lv, .int .i64 (n : Int), .int .i64 kind, .bool loops] w fun e w' => e = .returned (.bool (holdsV l kind loops (n + 1) (n : Int))) ∧ w' = w := by
  intro n
  induction n using Nat.strongRecOn with
  | ind n ih =>
    intro hlt
    have IH : Hid (∀ m : Nat, m < n → Calls Tryz.prog 19 #[lv, .int .i64 (m : Int), .int .i64 kind, .bool loops] w fun e w' => e = .returned (.bool (holdsV l kind loops n (m : Int))) ∧ w' = w) := Lib.hid fun m hm => by
      have := ih m hm (by omega)
      rwa [← holdsV_enough hg m n hm] at this
    clear ih
    obtain ⟨av, cv, rfl⟩ := hn.shape
    obtain ⟨b, o, kv, rfl, hb, c0, c1, c2, c3, c4⟩ := hn.at n hlt
    have HN : Hid (∀ m (hm : m < l.length), ∃ kv, TreeD.NdCells w b o m kv l[m]) := Lib.hid fun m hm => by
      obtain ⟨b2, o2, kv2, e, -, h⟩ := hn.at m hm
      injection e with e
      injection e with e1 e2
      subst e1 e2
      exact ⟨kv2, h⟩
    have hx := ndAt_of hlt
    have hks := hg n
    have hkn := hkl l[n] (List.getElem_mem hlt)
    have HV := Lib.hid (holdsV_succ l kind loops n (n : Int))
    unfold TreeD.kindAt at HV
    rw [hx] at HV hks
    generalize l[n] = x at c0 c1 c2 c3 c4 hks hkn HV
    obtain ⟨xk, xt, ks, xp⟩ := x
    simp only at c0 c1 c2 c3 c4 hks hkn HV
    rw [HV.out]
    clear HV hx hn hg hkl c1 c3
    have HKs := Lib.hid hks
    clear hks
    obtain ⟨ak, ck, rfl, hkk⟩ := c4
    have HKk := Lib.hid hkk
    clear hkk
    obtain ⟨len, hlen⟩ : ∃ len, l.length = len := ⟨_, rfl⟩
    have HLen := Lib.hid hlen
    rw [hlen] at hlt IH ⊢
    clear hlen
    have hni : (n : Int) < (len : Int) := by omega
    go_enter Tryz.func19, Tryz.ntmps19
    by_cases hk : xk = kind
    · subst hk
      go_wp2_with fail
      go_ret
      exact ⟨by simp, rfl⟩
    · have bk : (xk == kind) = false := by simpa using hk
      go_wp2_with fail
      go_loopw [24] (fun i wr => ∃ k : Nat, i = .int .i64 (k : Int) ∧ k ≤ ks.length ∧ wr = w ∧ Hid ((ks.take k).any (kidB l kind loops n) = false)) (fun i _ => ks.length - (intOf i).toNat)
      case atStart => exact ⟨0, rfl, Nat.zero_le _, rfl, Lib.hid rfl⟩
      case round =>
        obtain ⟨k, rfl, hkl, rfl, HA⟩ := hrel
        by_cases hlt2 : k < ks.length
        · have hi1 : (k : Int) < (ks.length : Int) := by omega
          have hmem := HKs.out ks[k] (List.getElem_mem hlt2)
          have HT : Hid ((ks.take (k + 1)).any (kidB l kind loops n) = (kidB l kind loops n ks[k])) := Lib.hid (by
            rw [List.take_succ_eq_append_getElem hlt2, List.any_append, HA.out]
            simp)
          have HM : Hid (kidB l kind loops n ks[k] = true → ks.any (kidB l kind loops n) = true) := Lib.hid fun h => List.any_eq_true.2 ⟨_, List.getElem_mem hlt2, h⟩
          rcases HKk.out with e | ⟨g, o2, rfl, hg2, hc2⟩
          · rw [e] at hlt2
            simp at hlt2
          have d0 := hc2 k _ (List.getElem?_eq_getElem hlt2)
          clear hc2
          generalize ks[k] = y at hmem HT HM d0
          obtain ⟨y0, y1⟩ := hmem
          obtain ⟨m, rfl⟩ : ∃ m : Nat, y = (m : Int) := ⟨y.toNat, by omega⟩
          have hml : m < l.length := by rw [HLen.out]; omega
          obtain ⟨kv2, m0, -⟩ := HN.out m hml
          have hmk : kindAt l (m : Int) = l[m].kind := by unfold TreeD.kindAt; rw [ndAt_of hml]
          have HR := Lib.hid (IH.out m (by omega))
          have HB : Hid (kidB l kind loops n (m : Int) = ((!decide (l[m].kind = 22) && (loops || !decide (l[m].kind = 9))) && holdsV l kind loops n (m : Int))) := Lib.hid (by unfold kidB; rw [hmk])
          clear hmk
          generalize l[m].kind = mk at m0 HB
          generalize holdsV l kind loops n (m : Int) = r at HR HB
          have hmi : (m : Int) < (len : Int) := by omega
          by_cases h22 : mk = 22
          · subst h22
            have HF := Lib.hid (HT.out.trans (by rw [HB.out] <;> simp))
            go_wp2_with fail
            go_roundw
            case rel => exact ⟨k + 1, by go_num, by omega, trivial, HF⟩
            case measure => simp [intOf]; omega
          · have b22 : (mk != 22) = true := by simp [h22]
            cases loops
            · by_cases h9 : mk = 9
              · subst h9
                have HF := Lib.hid (HT.out.trans (by rw [HB.out] <;> simp))
                go_wp2_with fail
                go_roundw
                case rel => exact ⟨k + 1, by go_num, by omega, trivial, HF⟩
                case measure => simp [intOf]; omega
              · have b9 : (mk != 9) = true := by simp [h9]
                go_wp2_with fail
                refine HR.out.mono ?_
                rintro e w1 ⟨rfl, rfl⟩
                cases r
                · have HF : Hid ((ks.take (k + 1)).any (kidB l kind false n) = false) := Lib.hid (HT.out.trans (by rw [HB.out]; simp))
                  go_wp2_with fail
                  go_roundw
                  case rel => exact ⟨k + 1, by go_num, by omega, trivial, HF⟩
                  case measure => simp [intOf]; omega
                · have HF := Lib.hid (HM.out (by rw [HB.out]; simp [h22, h9]))
                  go_wp2_with fail
                  go_ret
                  exact ⟨by rw [HF.out]; simp, rfl⟩
            · go_wp2_with fail
              refine HR.out.mono ?_
              rintro e w1 ⟨rfl, rfl⟩
              cases r
              · have HF : Hid ((ks.take (k + 1)).any (kidB l kind true n) = false) := Lib.hid (HT.out.trans (by rw [HB.out]; simp))
                go_wp2_with fail
                go_roundw
                case rel => exact ⟨k + 1, by go_num, by omega, trivial, HF⟩
                case measure => simp [intOf]; omega
              · have HF := Lib.hid (HM.out (by rw [HB.out]; simp [h22]))
                go_wp2_with fail
                go_ret
                exact ⟨by rw [HF.out]; simp, rfl⟩
        · have hkk : k = ks.length := by omega
          subst hkk
          have hA := HA.out
          rw [List.take_length] at hA
          go_wp2_with fail
          go_ret
          exact ⟨by simp [hk, hA], rfl⟩
end ScD
end Go.Proofs.YtmdkocegnbcgmaaGreatDoor
namespace Go.Proofs.YtmdkocegnbcgmaaGreatDoor
open Go.RowKit ObjM
namespace ScD
open TreeD (Nd NdsAt KidsAt ndAt kindAt)
def lastB (l : List Nd) (f : Nat) (k : Int) : Bool := decide (kindAt l k = 10) || (decide (kindAt l k = 8) && (endsV l f ((ndAt l k).kids.getD 1 0) && endsV l f ((ndAt l k).kids.getD 2 0)))
theorem endsV_succ (l : List Nd) (f : Nat) (n : Int) : endsV l (f + 1) n = (!(decide (kindAt l n ≠ 3) || (ndAt l n).kids.isEmpty) && lastB l f ((ndAt l n).kids.getLastD 0)) := rfl
theorem three_of {l : List Nd} (hD : TreeD.Done l l.length) (k : Int) (h : kindAt l k = 8) : (ndAt l k).kids.length = 3 := by
  unfold TreeD.kindAt TreeD.ndAt at h
  unfold TreeD.ndAt
  rw [List.getD_eq_getElem?_getD] at h ⊢
  by_cases hk : k.toNat < l.length
  · rw [List.getElem?_eq_getElem hk, Option.getD_some] at h ⊢
    have ho := (hD k.toNat _ hk (List.getElem?_eq_getElem hk)).own
    generalize l[k.toNat] = x at h ho
    unfold TreeD.ownB at ho
    simp only [Bool.and_eq_true] at ho
    have hf := ho.2.2.2.1
    rw [h] at hf
    rw [TreeD.fit_plain (by decide)] at hf
    have := TreeD.allKids_len hf
    unfold TreeD.kindsOf at this
    rw [List.length_map] at this
    rw [← this]
    rfl
  · rw [List.getElem?_eq_none (by omega), Option.getD_none] at h
    exact absurd h (by decide)
theorem kids_of {l : List Nd} (hD : TreeD.Done l l.length) (n : Nat) : ∀ k ∈ (ndAt l (n : Int)).kids, 0 ≤ k ∧ k < (n : Int) := by
  unfold TreeD.ndAt
  rw [List.getD_eq_getElem?_getD, Int.toNat_natCast]
  by_cases hk : n < l.length
  · rw [List.getElem?_eq_getElem hk, Option.getD_some]
    exact (hD n _ hk (List.getElem?_eq_getElem hk)).kids
  · rw [List.getElem?_eq_none (by omega), Option.getD_none]
    simp
theorem endsV_enough {l : List Nd} (hg : ∀ (n : Nat), ∀ k ∈ (ndAt l (n : Int)).kids, 0 ≤ k ∧ k < (n : Int)) (h3 : ∀ k, kindAt l k = 8 → (ndAt l k).kids.length = 3) : ∀ (n f : Nat), n < f → endsV l f (n : Int) = endsV l (n + 1) (n : Int) := by
  intro n
  induction n using Nat.strongRecOn with
  | ind n ih =>
    intro f hf
    obtain ⟨f, rfl⟩ : ∃ g, f = g + 1 := ⟨f - 1, by omega⟩
    rw [endsV_succ, endsV_succ]
    by_cases he : (ndAt l (n : Int)).kids = []
    · rw [he]
      simp
    · congr 1
      obtain ⟨h0, h1⟩ := hg n _ (last_mem he)
      generalize (ndAt l (n : Int)).kids.getLastD 0 = k at h0 h1 ⊢
      obtain ⟨m, rfl⟩ : ∃ m : Nat, k = (m : Int) := ⟨k.toNat, by omega⟩
      unfold lastB
      by_cases h8 : kindAt l (m : Int) = 8
      · have hl := h3 _ h8
        have mem : ∀ i, i < 3 → (ndAt l (m : Int)).kids.getD i 0 ∈ (ndAt l (m : Int)).kids := by
          intro i hi
          rw [List.getD_eq_getElem?_getD, List.getElem?_eq_getElem (by omega), Option.getD_some]
          exact List.getElem_mem _
        have key : ∀ i, i < 3 → endsV l f ((ndAt l (m : Int)).kids.getD i 0) = endsV l n ((ndAt l (m : Int)).kids.getD i 0) := by
          intro i hi
          obtain ⟨g0, g1⟩ := hg m _ (mem i hi)
          generalize (ndAt l (m : Int)).kids.getD i 0 = j at g0 g1 ⊢
          obtain ⟨j, rfl⟩ : ∃ m : Nat, j = (m : Int) := ⟨j.toNat, by omega⟩
          rw [ih j (by omega) f (by omega), ih j (by omega) n (by omega)]
        rw [key 1 (by omega), key 2 (by omega)]
      · simp [h8]
set_option maxRecDepth 100000 in
set_option maxHeartbeats 8000000 in
theorem rends_any (l : List Nd) (lv : Value) (hkl : ∀ n ∈ l, n.kids.length < 1000000) (hg : ∀ (n : Nat), ∀ k ∈ (ndAt l (n : Int)).kids, 0 ≤ k ∧ k < (n : Int)) (h3 : ∀ k, kindAt l k = 8 → (ndAt l k).kids.length = 3) : ∀ (n : Nat), n < l.length → ∀ (w : World), NdsAt w lv l →
    Calls Tryz.prog 23 #[lv, .int .i64 (n : Int)] w fun e w' => e = .returned (.bool (endsV l (n + 1) (n : Int))) ∧ Below w.heap.size w w' := by
  intro n
  induction n using Nat.strongRecOn with
  | ind n ih =>
    intro hlt w hn
    have IH : Hid (∀ m : Nat, m < n → ∀ W, Below w.heap.size w W → Calls Tryz.prog 23 #[lv, .int .i64 (m : Int)] W fun e w' => e = .returned (.bool (endsV l n (m : Int))) ∧ Below W.heap.size W w') := Lib.hid fun m hm W hb => by
      have := ih m hm (by omega) W (hn.below (Nat.le_refl _) hb)
      rwa [← endsV_enough hg h3 m n hm] at this
    clear ih
    obtain ⟨av, cv, rfl⟩ := hn.shape
    obtain ⟨b, o, kv, rfl, hb, c0, c1, c2, c3, c4⟩ := hn.at n hlt
    have HN : Hid (∀ m (hm : m < l.length), ∃ kv, TreeD.NdCells w b o m kv l[m]) := Lib.hid fun m hm => by
      obtain ⟨b2, o2, kv2, e, -, h⟩ := hn.at m hm
      injection e with e
      injection e with e1 e2
      subst e1 e2
      exact ⟨kv2, h⟩
    have hx := ndAt_of hlt
    have HG := Lib.hid hg
    have H3 := Lib.hid h3
    have HKn := Lib.hid hkl
    have hks := hg n
    have hkn := hkl l[n] (List.getElem_mem hlt)
    have HV := Lib.hid (endsV_succ l n (n : Int))
    unfold TreeD.kindAt at HV
    rw [hx] at HV hks
    generalize l[n] = x at c0 c1 c2 c3 c4 hks hkn HV
    obtain ⟨xk, xt, ks, xp⟩ := x
    simp only at c0 c1 c2 c3 c4 hks hkn HV
    rw [HV.out]
    clear HV hx hn hg h3 hkl c1 c3
    have HKs := Lib.hid hks
    clear hks
    obtain ⟨ak, ck, rfl, hkk⟩ := c4
    have HKk := Lib.hid hkk
    clear hkk
    obtain ⟨len, hlen⟩ : ∃ len, l.length = len := ⟨_, rfl⟩
    have HLen := Lib.hid hlen
    rw [hlen] at hlt IH ⊢
    clear hlen
    have hni : (n : Int) < (len : Int) := by omega
    go_enter Tryz.func23, Tryz.ntmps23
    by_cases hk : xk = 3
    · subst hk
      obtain ⟨q, hq⟩ | hq : (∃ q, ks.length = q + 1) ∨ ks.length = 0 := by
        cases ks with
        | nil => exact .inr rfl
        | cons a r => exact .inl ⟨r.length, rfl⟩
      · rcases HKk.out with e | ⟨g, o2, rfl, hg2, hc2⟩
        · rw [e] at hq
          simp at hq
        have hqk : q < ks.length := by omega
        have hmem := HKs.out ks[q] (List.getElem_mem hqk)
        have d0 := hc2 q _ (List.getElem?_eq_getElem hqk)
        have HLast : Hid (ks.getLastD 0 = ks[q]) := Lib.hid (by
          rw [List.getLastD_eq_getLast?, List.getLast?_eq_getElem?, hq, Nat.add_sub_cancel, List.getElem?_eq_getElem hqk, Option.getD_some])
        have HE : Hid (ks.isEmpty = false) := Lib.hid (by cases ks <;> simp_all)
        clear hc2
        generalize ks[q] = y at hmem d0 HLast
        obtain ⟨y0, y1⟩ := hmem
        obtain ⟨m, rfl⟩ : ∃ m : Nat, y = (m : Int) := ⟨y.toNat, by omega⟩
        rw [HLast.out, HE.out]
        rw [hq] at c2
        have hml : m < l.length := by rw [HLen.out]; omega
        obtain ⟨kv2, m0, m1, m2, m3, m4⟩ := HN.out m hml
        have hq2 : q < 1000000 := by omega
        have HLs : Hid (lastB l n (m : Int) = (decide (l[m].kind = 10) || (decide (l[m].kind = 8) && (endsV l n (l[m].kids.getD 1 0) && endsV l n (l[m].kids.getD 2 0))))) := Lib.hid (by unfold lastB TreeD.kindAt; rw [ndAt_of hml])
        have H38 := H3.out (m : Int)
        have HGm := HG.out m
        unfold TreeD.kindAt at H38
        rw [ndAt_of hml] at H38 HGm
        generalize l[m] = z at m0 m1 m2 m3 m4 HLs H38 HGm
        obtain ⟨zk, zt, zs, zp⟩ := z
        simp only at m0 m1 m2 m3 m4 HLs H38 HGm
        rw [HLs.out]
        have HZ := Lib.hid H38
        have HGz := Lib.hid HGm
        clear HLs hq hqk HKs HLast HE H38 HGm
        obtain ⟨az, cz, rfl, hzz⟩ := m4
        have HZc := Lib.hid hzz
        clear hzz
        have hw1 : IntKind.i64.wrap ((q : Int) + 1 - 1) = (q : Int) := by rw [show (q : Int) + 1 - 1 = q by omega]; exact IntWalk.i64_in _ (by omega)
        have hw2 : IntKind.i64.wrap (q : Int) = (q : Int) := IntWalk.i64_in _ (by omega)
        have hq0 : (0 : Int) ≤ (q : Int) := by omega
        have hq3 : (q : Int) < (q : Int) + 1 := by omega
        have hq4 : ¬ (q : Int) + 1 = 0 := by omega
        have hmi : (m : Int) < (len : Int) := by omega
        have HA : Hid (Below w.heap.size w (w.alloc (.cells #[.int .i64 zk, .string zt, .slice az zs.length cz, .int .i64 zp] 40))) := Lib.hid ((Below.refl _ w).alloc (Nat.le_refl _) _)
        have HNw := Lib.hid (Has.new w 40 [.int .i64 zk, .string zt, .slice az zs.length cz, .int .i64 zp])
        by_cases h10 : zk = 10
        · subst h10
          clear HZ
          go_wp2_with fail
          go_ret
          exact ⟨by simp, HA.out⟩
        · by_cases h8 : zk = 8
          · subst h8
            have hz3 := HZ.out rfl
            match zs, hz3 with
            | [e0, e1, e2], _ =>
              rcases HZc.out with e | ⟨g3, o3, rfl, hg3, hc3⟩
              · cases e
              have k1 := hc3 1 e1 rfl
              have k2 := hc3 2 e2 rfl
              clear hc3
              obtain ⟨p0, p1⟩ := HGz.out e1 (by simp)
              obtain ⟨p2, p3⟩ := HGz.out e2 (by simp)
              obtain ⟨j1, rfl⟩ : ∃ m : Nat, e1 = (m : Int) := ⟨e1.toNat, by omega⟩
              obtain ⟨j2, rfl⟩ : ∃ m : Nat, e2 = (m : Int) := ⟨e2.toNat, by omega⟩
              have H1 := Lib.hid (IH.out j1 (by omega) _ HA.out)
              have H2 := Lib.hid (fun W hb => IH.out j2 (by omega) W hb)
              simp only [List.getD_cons_succ, List.getD_cons_zero, List.length_cons, List.length_nil] at H1 H2 ⊢
              generalize endsV l n (j1 : Int) = r1 at H1 ⊢
              generalize endsV l n (j2 : Int) = r2 at H2 ⊢
              clear HZ HZc HGz IH
              go_wp2_with fail
              refine H1.out.mono ?_
              rintro e w1 ⟨rfl, hb1⟩
              cases r1
              · have HEnd := Lib.hid (HA.out.trans (hb1.mono HA.out.size))
                clear hb1
                go_wp2_with fail
                go_ret
                exact ⟨by simp, HEnd.out⟩
              · have HB1 := Lib.hid (HA.out.trans (hb1.mono HA.out.size))
                have hN1 := HNw.out.below hb1 HNw.out.lt
                have n2 := hN1.cell 2
                have n3 := hN1.lt
                simp only [List.getElem?_cons_zero, List.getElem?_cons_succ] at n2
                have k3 := (HB1.out.cell (p := ⟨g3, o3 + 2, none⟩) hg3).trans k2
                have hs1 := hb1.size
                clear hb1 hN1
                go_wp2_with fail
                refine (H2.out _ HB1.out).mono ?_
                rintro e w2 ⟨rfl, hb2⟩
                have HEnd := Lib.hid (HB1.out.trans (hb2.mono HB1.out.size))
                clear hb2
                go_wp2_with fail
                go_ret
                exact ⟨by simp, HEnd.out⟩
          · clear HZ
            go_wp2_with fail
            go_ret
            exact ⟨by simp [h8, h10], HA.out⟩
      · have hkn : ks = [] := List.eq_nil_of_length_eq_zero hq
        subst hkn
        simp only [List.length_nil] at c2
        clear hq HKs HKk
        go_wp2_with fail
        go_ret
        exact ⟨by simp, Below.refl _ _⟩
    · go_wp2_with fail
      go_ret
      exact ⟨by simp [hk], Below.refl _ _⟩
end ScD
end Go.Proofs.YtmdkocegnbcgmaaGreatDoor
namespace Go.Proofs.YtmdkocegnbcgmaaGreatDoor
open Go.RowKit ObjM
namespace ScD
open TreeD (Nd NdsAt)
noncomputable def fewSB (l : List Nd) : Bool := decide (TreeD.fewN l ≤ 8000)
set_option maxRecDepth 100000 in
set_option maxHeartbeats 4000000 in
theorem fewS_any (l : List Nd) (v : Value) (w : World) (hv : NdsAt w v l) (hok : ∀ n ∈ l, TreeD.NdOk n) (hlen : l.length ≤ 9223372036854775807) :
    Calls Tryz.prog 6 #[v] w fun e w' => e = .returned (.bool (fewSB l)) ∧ Below w.heap.size w w' := by
  obtain ⟨av, cv, rfl⟩ := hv.shape
  have HV := Lib.hid (fun (W : World) (hb : Below w.heap.size w W) => hv.below (Nat.le_refl _) hb)
  have HK := Lib.hid hok
  clear hv hok
  go_enter Tryz.func6, Tryz.ntmps6
  go_wp2
  go_loopw [3, 8] (fun m i wr => ∃ k n : Nat, i = .int .i64 (k : Int) ∧ m = .int .i64 (n : Int) ∧ k ≤ l.length ∧ n ≤ 8000 ∧ Below w.heap.size w wr ∧ Hid (TreeD.fewN (l.take k) = n)) (fun _ i _ => l.length - (intOf i).toNat)
  case atStart => exact ⟨0, 0, rfl, rfl, by omega, by omega, Below.refl _ _, Lib.hid rfl⟩
  case round =>
    obtain ⟨k, n, rfl, rfl, hk, hn, hB, HN⟩ := hrel
    have HB := Lib.hid hB
    have hszr := hB.size
    clear hB
    by_cases hlt : k < l.length
    · have hi1 : (k : Int) < (l.length : Int) := by omega
      obtain ⟨b, o, kv, rfl, hb, c0, c1, c2, c3, c4⟩ := (HV.out _ HB.out).at k hlt
      have hnk := HK.out l[k] (List.getElem_mem hlt)
      have HT := TreeD.few_take l k hlt
      rw [HN.out] at HT
      obtain ⟨ak, ck, rfl⟩ := c4.shape
      obtain ⟨h1, h2, -⟩ := hnk
      unfold TreeD.ndN at HT
      have HMo := TreeD.few_mono l (k + 1)
      generalize l[k] = t at c0 c1 c2 c3 c4 HT h1 h2
      obtain ⟨t0, t1, t2, t3⟩ := t
      simp only at c0 c1 c2 c3 c4 HT h1 h2
      have HBn := Lib.hid (HB.out.alloc hszr (.cells #[.int .i64 t0, .string t1, .slice ak t2.length ck, .int .i64 t3] 40))
      clear c4
      by_cases h5 : 8000 < n + (4 + t2.length + t1.size)
      · have h5i : (8000 : Int) < (n : Int) + (4 + (t2.length : Int) + (t1.size : Int)) := by omega
        have HF : Hid (fewSB l = false) := Lib.hid (by unfold fewSB; rw [decide_eq_false (by omega)])
        clear HT HMo
        go_wp2
        go_ret
        exact ⟨by rw [HF.out]; rfl, HBn.out⟩
      · have h5i : ¬ (8000 : Int) < (n : Int) + (4 + (t2.length : Int) + (t1.size : Int)) := by omega
        have HT2 := Lib.hid HT
        clear HT HMo
        go_wp2
        go_roundw
        case rel => exact ⟨k + 1, n + (4 + t2.length + t1.size), by go_num, by go_num, by omega, by omega, HBn.out, HT2⟩
        case measure => simp [intOf]; omega
    · have hkl : k = l.length := by omega
      subst hkl
      have HF : Hid (fewSB l = true) := Lib.hid (by
        unfold fewSB
        have := HN.out
        rw [List.take_length] at this
        rw [decide_eq_true (by omega)])
      go_wp2
      go_ret
      exact ⟨by rw [HF.out]; rfl, HB.out⟩
/-- Few nodes are no more than the checks take. -/
theorem fewS_size {l : List Nd} (h : fewSB l = true) : l.length ≤ 2000 ∧ ∀ n ∈ l, n.kids.length < 1000000 := by
  unfold fewSB at h
  rw [decide_eq_true_eq] at h
  have key : ∀ l : List Nd, 4 * l.length ≤ TreeD.fewN l ∧ ∀ n ∈ l, n.kids.length ≤ TreeD.fewN l := by
    intro l
    induction l with
    | nil => simp [TreeD.fewN]
    | cons a r ih =>
      have e : TreeD.fewN (a :: r) = TreeD.ndN a + TreeD.fewN r := by simp [TreeD.fewN]
      have e2 : TreeD.ndN a = 4 + a.kids.length + a.text.size := rfl
      refine ⟨by simp only [List.length_cons]; omega, fun n hn => ?_⟩
      rcases List.mem_cons.1 hn with rfl | hn
      · omega
      · have := ih.2 n hn
        omega
  have := key l
  exact ⟨by omega, fun n hn => by have := this.2 n hn; omega⟩
/-- Whether there is such a node of a tree. -/
noncomputable def fitsB (l : List Nd) (n : Int) : Bool := decide (0 ≤ n) && (decide (n < (l.length : Int)) && decide ((TreeD.checkV l).2 = 0))
set_option maxRecDepth 100000 in
set_option maxHeartbeats 4000000 in
theorem fits_any (w : World) (lv : Value) (l : List Nd) (n : Int) (hn1 : -9223372036854775808 ≤ n) (hn2 : n ≤ 9223372036854775807) (hl5 : l.length ≤ 50000) (hokl : ∀ n ∈ l, TreeD.NdOk n) (hkl : ∀ n ∈ l, n.kids.length < 1000000) (hS : TreeD.Still w lv l) :
    Calls Tryz.prog 21 #[lv, .int .i64 n] w fun e w' => e = .returned (.bool (fitsB l n)) ∧ Below w.heap.size w w' := by
  have HC := Lib.hid (TreeD.check_any l lv w hl5 hokl hkl hS)
  unfold TreeD.CheckIs at HC
  obtain ⟨al, cl, rfl⟩ := hS.nds.shape
  clear hS hokl hkl
  obtain ⟨m, hm⟩ : ∃ m, l.length = m := ⟨_, rfl⟩
  have HF := Lib.hid (show fitsB l n = (decide (0 ≤ n) && (decide (n < (m : Int)) && decide ((TreeD.checkV l).2 = 0))) by rw [← hm]; rfl)
  rw [hm] at HC ⊢
  clear hm
  rw [HF.out]
  clear HF
  generalize TreeD.checkV l = cv at HC ⊢
  obtain ⟨x1, x2⟩ := cv
  go_enter Tryz.func21, Tryz.ntmps21
  by_cases h0 : n < 0
  · have h1 : ¬ 0 ≤ n := by omega
    go_wp2_with fail
    go_ret
    exact ⟨by simp; intros; omega, Below.refl _ _⟩
  · have h1 : 0 ≤ n := by omega
    by_cases h2 : n < (m : Int)
    · have h3 : ¬ (m : Int) ≤ n := by omega
      go_wp2_with fail
      refine HC.out.mono ?_
      rintro e w1 ⟨rfl, hb⟩
      have HB := Lib.hid hb
      clear hb HC
      by_cases h4 : x2 = 0
      · subst h4
        go_wp2_with fail
        go_ret
        exact ⟨by simp, HB.out⟩
      · go_wp2_with fail
        go_ret
        exact ⟨by simp [h4], HB.out⟩
    · have h3 : (m : Int) ≤ n := by omega
      go_wp2_with fail
      go_ret
      exact ⟨by simp; intros; omega, Below.refl _ _⟩
end ScD
end Go.Proofs.YtmdkocegnbcgmaaGreatDoor
namespace Go.Proofs.YtmdkocegnbcgmaaGreatDoor
open Go.RowKit ObjM
namespace TreeD

def rargsB (l : List Nd) (x : Nd) : Bool := if memB [READ, WRITE] x.text = true then decide (kindAt l (x.kids.getD 0 0) = 15) && digitB (ndAt l (x.kids.getD 0 0)).text else true
def rextraB (l : List Nd) (x : Nd) : Bool :=
  if x.kind = 3 then lastB l x.kids else if x.kind = 6 ∨ x.kind = 7 then baseB l (x.kids.getD 0 0)
  else if x.kind = 21 then rargsB l x else if x.kind = 32 then unlikeB id (textsOf l x.kids)
  else if x.kind = 1 then unlikeB (·.take 1) (textsOf l x.kids.dropLast) else true
set_option maxRecDepth 100000 in
set_option maxHeartbeats 8000000 in
theorem rroot_any (lv : Value) (l : List Nd) (n q : Nat) (w : World) (hl : NdsAt w lv l) (hD : Done l n) (hq : q < n) (hn : n ≤ l.length) :
    Calls Tryz.prog 48 #[lv, .int .i64 (q : Int)] w fun e w' => e = .returned (.int .i64 (rootV l q (q : Int))) ∧ w = w' := by
  obtain ⟨R, hR⟩ : ∃ R, rootV l q (q : Int) = R := ⟨_, rfl⟩
  rw [hR]
  have HD := Lib.hid hD
  have HL := Lib.hid hl
  obtain ⟨al, cl, rfl⟩ := hl.shape
  have HR0 := Lib.hid hR
  clear hR hD hl
  go_enter Tryz.func48, Tryz.ntmps48
  go_wp2
  go_loopw [1] (fun i wr => ∃ k f : Nat, i = .int .i64 (k : Int) ∧ k < n ∧ k ≤ f ∧ Hid (wr = w) ∧ Hid (rootV l f (k : Int) = R)) (fun i _ => (intOf i).toNat)
  case atStart => exact ⟨q, q, rfl, hq, by omega, Lib.hid rfl, HR0⟩
  case round =>
    obtain ⟨k, f, rfl, hk, hkf, HW, HR⟩ := hrel
    obtain rfl := HW.out
    clear HW HR0
    have hkl : k < l.length := by omega
    have hki : (k : Int) < (l.length : Int) := by omega
    have hk0 : (0 : Int) ≤ (k : Int) := by omega
    obtain ⟨b, o2, kv2, hb1, hb2, d0, d1, d2, d3, d4⟩ := HL.out.at k hkl
    have hg := HD.out k l[k] hk (List.getElem?_eq_getElem hkl)
    by_cases hkind : l[k].kind = 18 ∨ l[k].kind = 19 ∨ l[k].kind = 20
    · obtain ⟨y, r, hx⟩ := down_kid hg hkind
      have hy := hg.kids y (by rw [hx]; simp)
      obtain ⟨f2, rfl⟩ : ∃ f2, f = f2 + 1 := ⟨f - 1, by omega⟩
      have HR2 : Hid (rootV l f2 y = R) := Lib.hid (by rw [← HR.out, root_step hkl hkind hx])
      rw [hx] at d4
      obtain ⟨av, cap, rfl⟩ := d4.shape
      obtain ⟨g, o, rfl, hg2, z0⟩ := d4.at 0 (by simp)
      obtain ⟨p, rfl⟩ : ∃ p : Nat, y = (p : Int) := ⟨y.toNat, by omega⟩
      have hlen : (0 : Int) < ((((p : Int) :: r).length : Nat) : Int) := by simp only [List.length_cons]; omega
      subst hb1
      obtain ⟨kd, hkd⟩ : ∃ kd, l[k].kind = kd := ⟨_, rfl⟩
      rw [hkd] at d0 hkind
      simp only [List.getElem_cons_zero, Nat.add_zero] at z0
      have hpk : p < k := by omega
      obtain ⟨m, hm⟩ : ∃ m, ((p : Int) :: r).length = m := ⟨_, rfl⟩
      rw [hm] at d2 hlen
      clear hg hx hkd d1 d3 d4 HR hy
      rcases hkind with rfl | rfl | rfl
      all_goals
        go_wp2
        go_roundw
        case rel => exact ⟨p, f2, rfl, by omega, by omega, (by first | exact Lib.hid rfl | exact Lib.hid trivial), HR2⟩
        case measure => simp [intOf]; omega
    · have hRe : R = l[k].kind := by rw [← HR.out, root_end hkl hkind]
      subst hb1
      obtain ⟨kd, hkd⟩ : ∃ kd, l[k].kind = kd := ⟨_, rfl⟩
      rw [hkd] at d0 hkind hRe
      subst hRe
      clear hg hkd d1 d2 d3 d4 HR
      have g1 : (R == 18) = false := by simp only [beq_eq_false_iff_ne, ne_eq]; exact fun e => hkind (.inl e)
      have g2 : (R == 19) = false := by simp only [beq_eq_false_iff_ne, ne_eq]; exact fun e => hkind (.inr (.inl e))
      have g3 : (R == 20) = false := by simp only [beq_eq_false_iff_ne, ne_eq]; exact fun e => hkind (.inr (.inr e))
      clear hkind
      go_wp2
      go_ret
      exact ⟨rfl, rfl⟩
theorem memRW (t : ByteArray) : memB [READ, WRITE] t = ((t.toList == [114, 101, 97, 100]) || (t.toList == [119, 114, 105, 116, 101])) := by
  unfold memB READ WRITE
  rw [ByteArray.toList_eq]
  simp only [List.any_cons, List.any_nil, Bool.or_false]
  rw [Bool.beq_comm (a := t.data.toList), Bool.beq_comm (a := t.data.toList)]
/-- What is known of a node whose kids and text are as they should be. -/
structure Xh (w : World) (lv : Value) (l : List Nd) (n : Nat) (x : Nd) : Prop where
  st : Still w lv l
  dn : Done l n
  lt : n < l.length
  is : l[n]? = some x
  kids : ∀ k ∈ x.kids, 0 ≤ k ∧ k < (n : Int)
  kl : x.kids.length < 1000000
  ll : l.length ≤ 100000
  okl : ∀ n ∈ l, NdOk n
  fit : fitB (WANT.getD x.kind.toNat []) (kindsOf l x.kids) = true
  txt : rtextB x = true
def ExtraIs (l : List Nd) (x : Nd) (w : World) (e : Ending) (w' : World) : Prop := e = .returned (.bool (rextraB l x)) ∧ Below w.heap.size w w'
set_option maxRecDepth 100000 in
set_option maxHeartbeats 16000000 in
theorem extra67 (l : List Nd) (n : Nat) (x : Nd) (lv : Value) (w : World) (h : Xh w lv l n x) (hkind : x.kind = 6 ∨ x.kind = 7) :
    Calls Tryz.prog 26 #[lv, .int .i64 (n : Int)] w (ExtraIs l x w) := by
  have hnd := h.st.nds
  have hlt := h.lt
  have hokx := h.okl x (List.mem_of_getElem? h.is)
  have hxe : l[n] = x := (List.getElem?_eq_some_iff.1 h.is).2
  obtain ⟨al, cl, rfl⟩ := hnd.shape
  obtain ⟨b, o, kv, rfl, hb2, d0, d1, d2, d3, d4⟩ := hnd.at n h.lt
  obtain ⟨av, cv, rfl⟩ := d4.shape
  have hcp := h.st.cap b o _ cl rfl n h.lt _ _ _ d2
  rw [hxe] at d0 d1 d2 d3 d4 hcp
  have HX := Lib.hid h
  obtain ⟨x0, x1, ks, x3⟩ := x
  simp only at d0 d1 d2 d3 d4 hcp hkind
  have hni : (n : Int) < (l.length : Int) := by omega
  have hn0 : (0 : Int) ≤ (n : Int) := by omega
  have HKd := Lib.hid (fun (W : World) (h : Below w.heap.size w W) => d4.below (Nat.le_refl _) h)
  have HNd := Lib.hid (fun (W : World) (h : Below w.heap.size w W) => hnd.below (Nat.le_refl _) h)
  have hp : 0 < ks.length := by
    have hf := h.fit
    have hkn : (kindsOf l ks).length = ks.length := by simp [kindsOf]
    rw [← hkn]
    rcases hkind with rfl | rfl
    · exact fit_first hf rfl (show (0 : Nat) < 2 by decide)
    · exact fit_first hf rfl (show (0 : Nat) < 1 by decide)
  have hA0 : Below w.heap.size w (w.alloc (.cells #[.int .i64 x0, .string x1, .slice av ks.length cv, .int .i64 x3] 40)) := (Below.refl _ w).alloc (Nat.le_refl _) _
  obtain ⟨g, o2, rfl, hg2, z0⟩ := (HKd.out _ hA0).at 0 hp
  have hy := h.kids ks[0] (List.getElem_mem hp)
  have hgd : ks.getD 0 0 = ks[0] := by simp [List.getD, hp]
  have he : rextraB l ⟨x0, x1, ks, x3⟩ = baseB l ks[0] := by
    rw [← hgd]
    unfold rextraB
    simp only
    rw [if_neg (by omega), if_pos hkind]
  generalize ks[0] = y at z0 hy he
  obtain ⟨q, rfl⟩ : ∃ q : Nat, y = (q : Int) := ⟨y.toNat, by omega⟩
  have HRt := Lib.hid (rroot_any _ l n q _ (HNd.out _ hA0) h.dn (by omega) (Nat.le_of_lt h.lt))
  have hbb : baseB l (q : Int) = (decide (rootV l q (q : Int) = 17) || decide (rootV l q (q : Int) = 21)) := by
    unfold baseB
    simp only [Int.toNat_natCast]
  generalize rootV l q (q : Int) = rv at HRt hbb
  rw [hbb] at he
  have HE : Hid (∀ w', Below w.heap.size w w' → ExtraIs l ⟨x0, x1, ks, x3⟩ w (.returned (.bool (decide (rv = 17) || decide (rv = 21)))) w') := Lib.hid fun w' hb => ⟨by rw [he], hb⟩
  have hp1 : (0 : Int) < (ks.length : Int) := by omega
  simp only [Nat.add_zero] at z0
  obtain ⟨m, hm⟩ : ∃ m, ks.length = m := ⟨_, rfl⟩
  rw [hm] at HRt hp1 z0 d2 hcp
  clear hA0 hbb he hy hgd hp HX HKd HNd
  have hm2 := hm
  have HA : Hid (Below w.heap.size w (w.alloc (.cells #[.int .i64 x0, .string x1, .slice (some ⟨g, o2, none⟩) m cv, .int .i64 x3] 40))) := Lib.hid ((Below.refl _ w).alloc (Nat.le_refl _) _)
  clear d4 hnd h hxe hlt hokx hm hm2
  have hrv : (rv = 17 ∨ (¬ rv = 17 ∧ rv = 21)) ∨ (¬ rv = 17 ∧ ¬ rv = 21) := by omega
  rcases hkind with rfl | rfl
  all_goals
    go_enter Tryz.func26, Tryz.ntmps26
    go_wp2_with fail
    refine (HRt.out).mono ?_
    rintro e w2 ⟨rfl, rfl⟩
    rcases hrv with (rfl | ⟨hr1, rfl⟩) | ⟨hr1, hr2⟩
    · go_wp2
      go_ret
      exact HE.out _ HA.out
    · go_wp2
      go_ret
      exact HE.out _ HA.out
    · have g1 : (rv == 17) = false := by simp [hr1]
      have g2 : (rv == 21) = false := by simp [hr2]
      rw [decide_eq_false hr1, decide_eq_false hr2] at HE
      go_wp2
      go_ret
      exact HE.out _ HA.out
set_option maxRecDepth 100000 in
set_option maxHeartbeats 16000000 in
theorem extraElse (l : List Nd) (n : Nat) (x : Nd) (lv : Value) (w : World) (h : Xh w lv l n x) (hkind : ¬ x.kind = 1 ∧ ¬ x.kind = 3 ∧ ¬ x.kind = 6 ∧ ¬ x.kind = 7 ∧ ¬ x.kind = 21 ∧ ¬ x.kind = 32) :
    Calls Tryz.prog 26 #[lv, .int .i64 (n : Int)] w (ExtraIs l x w) := by
  have hnd := h.st.nds
  have hlt := h.lt
  have hokx := h.okl x (List.mem_of_getElem? h.is)
  have hxe : l[n] = x := (List.getElem?_eq_some_iff.1 h.is).2
  obtain ⟨al, cl, rfl⟩ := hnd.shape
  obtain ⟨b, o, kv, rfl, hb2, d0, d1, d2, d3, d4⟩ := hnd.at n h.lt
  obtain ⟨av, cv, rfl⟩ := d4.shape
  have hcp := h.st.cap b o _ cl rfl n h.lt _ _ _ d2
  rw [hxe] at d0 d1 d2 d3 d4 hcp
  have HX := Lib.hid h
  obtain ⟨x0, x1, ks, x3⟩ := x
  simp only at d0 d1 d2 d3 d4 hcp hkind
  have hni : (n : Int) < (l.length : Int) := by omega
  have hn0 : (0 : Int) ≤ (n : Int) := by omega
  have HKd := Lib.hid (fun (W : World) (h : Below w.heap.size w W) => d4.below (Nat.le_refl _) h)
  have HNd := Lib.hid (fun (W : World) (h : Below w.heap.size w W) => hnd.below (Nat.le_refl _) h)
  obtain ⟨k1, k3, k6, k7, k21, k32⟩ := hkind
  have he : rextraB l ⟨x0, x1, ks, x3⟩ = true := by simp [rextraB, k1, k3, k6, k7, k21, k32]
  have HE : Hid (∀ w', Below w.heap.size w w' → ExtraIs l ⟨x0, x1, ks, x3⟩ w (.returned (.bool true)) w') := Lib.hid fun w' hb => ⟨by rw [he], hb⟩
  clear he HX HKd HNd
  have HA : Hid (Below w.heap.size w (w.alloc (.cells #[.int .i64 x0, .string x1, .slice av ks.length cv, .int .i64 x3] 40))) := Lib.hid ((Below.refl _ w).alloc (Nat.le_refl _) _)
  clear d4 hnd h hxe hlt hokx
  go_enter Tryz.func26, Tryz.ntmps26
  go_wp2
  go_ret
  exact HE.out _ HA.out
set_option maxRecDepth 100000 in
set_option maxHeartbeats 16000000 in
theorem extra3 (l : List Nd) (n : Nat) (x : Nd) (lv : Value) (w : World) (h : Xh w lv l n x) (hkind : x.kind = 3) :
    Calls Tryz.prog 26 #[lv, .int .i64 (n : Int)] w (ExtraIs l x w) := by
  have hnd := h.st.nds
  have hlt := h.lt
  have hokx := h.okl x (List.mem_of_getElem? h.is)
  have hxe : l[n] = x := (List.getElem?_eq_some_iff.1 h.is).2
  obtain ⟨al, cl, rfl⟩ := hnd.shape
  obtain ⟨b, o, kv, rfl, hb2, d0, d1, d2, d3, d4⟩ := hnd.at n h.lt
  obtain ⟨av, cv, rfl⟩ := d4.shape
  have hcp := h.st.cap b o _ cl rfl n h.lt _ _ _ d2
  rw [hxe] at d0 d1 d2 d3 d4 hcp
  have HX := Lib.hid h
  obtain ⟨x0, x1, ks, x3⟩ := x
  simp only at d0 d1 d2 d3 d4 hcp hkind
  have hni : (n : Int) < (l.length : Int) := by omega
  have hn0 : (0 : Int) ≤ (n : Int) := by omega
  have HKd := Lib.hid (fun (W : World) (h : Below w.heap.size w W) => d4.below (Nat.le_refl _) h)
  have HNd := Lib.hid (fun (W : World) (h : Below w.heap.size w W) => hnd.below (Nat.le_refl _) h)
  subst hkind
  have he : rextraB l ⟨3, x1, ks, x3⟩ = lastB l ks := by simp [rextraB]
  have HE : Hid (∀ w', Below w.heap.size w w' → ExtraIs l ⟨3, x1, ks, x3⟩ w (.returned (.bool (lastB l ks))) w') := Lib.hid fun w' hb => ⟨by rw [he], hb⟩
  obtain ⟨R, hR⟩ : ∃ R, lastB l ks = R := ⟨_, rfl⟩
  have HR0 : Hid (lastB l (ks.drop 0) = R) := Lib.hid hR
  rw [hR] at HE
  have HO : Hid (∀ k ∈ ks, 0 ≤ k ∧ k < (l.length : Int)) := Lib.hid fun k hk => by have := h.kids k hk; have := h.lt; omega
  have hkl : ks.length < 1000000 := h.kl
  clear he hR
  have HA : Hid (Below w.heap.size w (w.alloc (.cells #[.int .i64 3, .string x1, .slice av ks.length cv, .int .i64 x3] 40))) := Lib.hid ((Below.refl _ w).alloc (Nat.le_refl _) _)
  have hN := Has.new w 40 [.int .i64 3, .string x1, .slice av ks.length cv, .int .i64 x3]
  have HH : Hid (w.heap.size ≤ w.heap.size) := Lib.hid (Nat.le_refl _)
  clear d4 hnd h hxe hlt hokx
  go_enter Tryz.func26, Tryz.ntmps26
  go_wp2
  generalize hW : World.alloc w (.cells #[.int .i64 3, .string x1, .slice av ks.length cv, .int .i64 x3] 40) = w1 at HA hN ⊢
  generalize hNe : w.heap.size = N at hN ⊢
  have n0 := hN.cell 0
  have n1 := hN.cell 1
  have n2 := hN.cell 2
  have n3 := hN.cell 3
  have nl := hN.lt
  simp only [List.getElem?_cons_succ, List.getElem?_cons_zero] at n0 n1 n2 n3
  have HNh := Lib.hid hN
  clear hN hW d0 d1 d2 d3 HH
  go_loopw [29] (fun i wr => ∃ k : Nat, i = .int .i64 (k : Int) ∧ k ≤ ks.length ∧ Hid (wr = w1) ∧ Hid (lastB l (ks.drop k) = R)) (fun i _ => ks.length - (intOf i).toNat)
  case atStart => exact ⟨0, rfl, by omega, Lib.hid rfl, HR0⟩
  case round =>
    obtain ⟨k, rfl, hkk, HW, HR⟩ := hrel
    obtain rfl := HW.out
    clear HW
    by_cases hlt : k < ks.length
    · have hk1 : (k : Int) < (ks.length : Int) := by omega
      obtain ⟨g, o2, hg1, hg2, z0⟩ := (HKd.out _ HA.out).at k hlt
      have hy := HO.out _ (List.getElem_mem hlt)
      have HS : Hid (k + 1 < ks.length → lastB l (ks.drop k) = (!(decide (kindAt l ks[k] = 10) || decide (kindAt l ks[k] = 11)) && lastB l (ks.drop (k + 1)))) := Lib.hid fun h => last_take h
      generalize ks[k] = y at z0 hy HS
      obtain ⟨q, rfl⟩ : ∃ q : Nat, y = (q : Int) := ⟨y.toNat, by omega⟩
      have hql : q < l.length := by omega
      have hqi : (q : Int) < (l.length : Int) := by omega
      have hq0 : (0 : Int) ≤ (q : Int) := by omega
      obtain ⟨b2, o3, kv2, hb1, hb3, d0, -⟩ := (HNd.out _ HA.out).at q hql
      injection hb1 with hb1
      injection hb1 with hb4 hb5
      subst hb4 hb5
      rw [kindAt_q hql] at HS
      generalize l[q].kind = kd at d0 HS
      subst hg1
      by_cases hend : k + 1 < ks.length
      · have HS2 := Lib.hid (HS.out hend)
        have hend1 : (k : Int) < (ks.length : Int) - 1 := by omega
        by_cases h10 : kd = 10
        · subst h10
          have hRf : R = false := by rw [← HR.out, HS2.out]; rfl
          subst hRf
          clear HS HS2
          go_wp2
          go_ret
          exact HE.out _ HA.out
        · by_cases h11 : kd = 11
          · subst h11
            have hRf : R = false := by rw [← HR.out, HS2.out]; rfl
            subst hRf
            clear HS HS2
            go_wp2
            go_ret
            exact HE.out _ HA.out
          · have HR2 : Hid (lastB l (ks.drop (k + 1)) = R) := Lib.hid (by rw [← HR.out, HS2.out]; simp [h10, h11])
            have b10 : (kd == 10) = false := by simp [h10]
            have b11 : (kd == 11) = false := by simp [h11]
            clear HS HS2 HR
            go_wp2
            go_roundw
            case rel => exact ⟨k + 1, by go_num, by omega, (by first | exact Lib.hid rfl | exact Lib.hid trivial), HR2⟩
            case measure => simp [intOf]; omega
      · have hend1 : ¬ (k : Int) < (ks.length : Int) - 1 := by omega
        have HR2 : Hid (lastB l (ks.drop (k + 1)) = R) := Lib.hid (by rw [← HR.out, last_end (by omega), last_end (by omega)])
        clear HS HR
        go_wp2
        go_roundw
        case rel => exact ⟨k + 1, by go_num, by omega, (by first | exact Lib.hid rfl | exact Lib.hid trivial), HR2⟩
        case measure => simp [intOf]; omega
    · have hRt : R = true := by rw [← HR.out, last_end (by omega)]
      have hkm : k = ks.length := by omega
      subst hRt hkm
      go_wp2
      go_ret
      exact HE.out _ HA.out
set_option maxRecDepth 100000 in
set_option maxHeartbeats 16000000 in
theorem extra21 (l : List Nd) (n : Nat) (x : Nd) (lv : Value) (w : World) (h : Xh w lv l n x) (hkind : x.kind = 21) :
    Calls Tryz.prog 26 #[lv, .int .i64 (n : Int)] w (ExtraIs l x w) := by
  have hnd := h.st.nds
  have hlt := h.lt
  have hokx := h.okl x (List.mem_of_getElem? h.is)
  have hxe : l[n] = x := (List.getElem?_eq_some_iff.1 h.is).2
  obtain ⟨al, cl, rfl⟩ := hnd.shape
  obtain ⟨b, o, kv, rfl, hb2, d0, d1, d2, d3, d4⟩ := hnd.at n h.lt
  obtain ⟨av, cv, rfl⟩ := d4.shape
  have hcp := h.st.cap b o _ cl rfl n h.lt _ _ _ d2
  rw [hxe] at d0 d1 d2 d3 d4 hcp
  have HX := Lib.hid h
  obtain ⟨x0, x1, ks, x3⟩ := x
  simp only at d0 d1 d2 d3 d4 hcp hkind
  have hni : (n : Int) < (l.length : Int) := by omega
  have hn0 : (0 : Int) ≤ (n : Int) := by omega
  have HKd := Lib.hid (fun (W : World) (h : Below w.heap.size w W) => d4.below (Nat.le_refl _) h)
  have HNd := Lib.hid (fun (W : World) (h : Below w.heap.size w W) => hnd.below (Nat.le_refl _) h)
  subst hkind
  have he : rextraB l ⟨21, x1, ks, x3⟩ = rargsB l ⟨21, x1, ks, x3⟩ := by simp [rextraB]
  have HE : Hid (∀ w', Below w.heap.size w w' → ExtraIs l ⟨21, x1, ks, x3⟩ w (.returned (.bool (rargsB l ⟨21, x1, ks, x3⟩))) w') := Lib.hid fun w' hb => ⟨by rw [he], hb⟩
  have hkl : ks.length < 1000000 := h.kl
  unfold rargsB at HE
  simp only at HE
  rw [memRW] at HE
  by_cases hrw : x1 = READ ∨ x1 = WRITE
  · have htx := h.txt
    unfold rtextB at htx
    simp only [if_true] at htx
    have hbv : builtinV x1 = (ks.length : Int) := of_decide_eq_true htx
    have hpos : 0 < ks.length := by
      have : builtinV x1 = 1 ∨ builtinV x1 = 2 := by
        rcases hrw with rfl | rfl
        · exact .inl (by decide)
        · exact .inr (by decide)
      omega
    have hmt : ((x1.toList == [114, 101, 97, 100]) || (x1.toList == [119, 114, 105, 116, 101])) = true := by
      rw [← memRW]
      rcases hrw with rfl | rfl <;> decide
    rw [hmt] at HE
    simp only [if_true] at HE
    have hA0 : Below w.heap.size w (w.alloc (.cells #[.int .i64 21, .string x1, .slice av ks.length cv, .int .i64 x3] 40)) := (Below.refl _ w).alloc (Nat.le_refl _) _
    obtain ⟨g, o2, rfl, hg2, z0⟩ := (HKd.out _ hA0).at 0 hpos
    have hy := h.kids ks[0] (List.getElem_mem hpos)
    have hgd : ks.getD 0 0 = ks[0] := by simp [List.getD, hpos]
    rw [hgd] at HE
    generalize ks[0] = y at z0 hy HE
    obtain ⟨q, rfl⟩ : ∃ q : Nat, y = (q : Int) := ⟨y.toNat, by omega⟩
    have hql : q < l.length := by omega
    have hqi : (q : Int) < (l.length : Int) := by omega
    have hq0 : (0 : Int) ≤ (q : Int) := by omega
    obtain ⟨b2, o3, kv2, hb1, hb3, e0, e1, e2, e3, e4⟩ := (HNd.out _ hA0).at q hql
    injection hb1 with hb1
    injection hb1 with hb4 hb5
    subst hb4 hb5
    obtain ⟨av2, cap2, rfl⟩ := e4.shape
    rw [kindAt_q hql, ndAt_q hql] at HE
    have hok2 := (h.okl _ (List.getElem_mem hql)).1
    generalize hnk2 : l[q].kids.length = nk2 at e2
    clear e4 hnk2
    generalize l[q] = z at e0 e1 e3 HE hok2
    obtain ⟨y0, y1, y2, y3⟩ := z
    simp only at e0 e1 e3 HE hok2
    have HDg := fun W => Lib.hid (rDigit_any y1 hok2 W)
    generalize digitB y1 = dg at HDg HE
    simp only [Nat.add_zero] at z0
    have hp1 : (0 : Int) < (ks.length : Int) := by omega
    have hbl : b < w.heap.size := hb2
    obtain ⟨m, hm⟩ : ∃ m, ks.length = m := ⟨_, rfl⟩
    rw [hm] at hA0 hp1 z0 d2 hcp e0 e1 e2 e3 hg2 hb3
    have HA : Hid (Below w.heap.size w (w.alloc (.cells #[.int .i64 21, .string x1, .slice (some ⟨g, o2, none⟩) m cv, .int .i64 x3] 40))) := Lib.hid hA0
    have hN := Has.new w 40 [.int .i64 21, .string x1, .slice (some ⟨g, o2, none⟩) m cv, .int .i64 x3]
    have n1 := hN.cell 1
    have n2 := hN.cell 2
    have nl := hN.lt
    simp only [List.getElem?_cons_succ, List.getElem?_cons_zero] at n1 n2
    have HA2 : Hid (Below w.heap.size w ((w.alloc (.cells #[.int .i64 21, .string x1, .slice (some ⟨g, o2, none⟩) m cv, .int .i64 x3] 40)).alloc (.cells #[.int .i64 y0, .string y1, .slice av2 nk2 cap2, .int .i64 y3] 40))) := Lib.hid (hA0.alloc hA0.size _)
    clear hnd h hxe hlt hokx hy hgd hm hpos hA0 hN hok2 he htx hbv hmt HX HKd HNd d4
    rcases hrw with rfl | rfl
    all_goals
      simp only [READ, WRITE] at n1 n2 nl z0 e0 e1 e2 e3 d1 HA HA2 HE ⊢
      by_cases h15 : y0 = 15
      · subst h15
        simp only [decide_true, Bool.true_and] at HE
        go_enter Tryz.func26, Tryz.ntmps26
        go_wp2_with fail
        refine ((HDg _).out).mono ?_
        rintro e w2 ⟨rfl, hw⟩
        subst hw
        go_wp2
        go_ret
        exact HE.out _ HA2.out
      · rw [decide_eq_false h15] at HE
        have b15 : (y0 == 15) = false := by simp [h15]
        simp only [Bool.false_and] at HE
        go_enter Tryz.func26, Tryz.ntmps26
        go_wp2
        go_ret
        exact HE.out _ HA2.out
  · have g1 := ne_list (l := [114, 101, 97, 100]) (s := x1) (fun e => hrw (.inl e))
    have g2 := ne_list (l := [119, 114, 105, 116, 101]) (s := x1) (fun e => hrw (.inr e))
    rw [g1, g2] at HE
    simp only [Bool.or_false, Bool.false_eq_true, if_false] at HE
    clear he HX HKd HNd hrw
    have HA : Hid (Below w.heap.size w (w.alloc (.cells #[.int .i64 21, .string x1, .slice av ks.length cv, .int .i64 x3] 40))) := Lib.hid ((Below.refl _ w).alloc (Nat.le_refl _) _)
    clear d4 hnd h hxe hlt hokx
    go_enter Tryz.func26, Tryz.ntmps26
    go_wp2
    go_ret
    exact HE.out _ HA.out
end TreeD
end Go.Proofs.YtmdkocegnbcgmaaGreatDoor

namespace Go.Proofs.YtmdkocegnbcgmaaGreatDoor
open Go.RowKit ObjM
namespace TreeD

def sk (g : List UInt8 → List UInt8) (l : List Nd) (cs : List Int) (k : Nat) : List (List UInt8) := (textsOf l (cs.take k)).map g
theorem sk_zero (g : List UInt8 → List UInt8) (l : List Nd) (cs : List Int) : sk g l cs 0 = [] := rfl
theorem sk_next {g : List UInt8 → List UInt8} {l : List Nd} {cs : List Int} {k : Nat} (hk : k < cs.length) : sk g l cs (k + 1) = sk g l cs k ++ [g (txt l cs[k])] := by
  unfold sk textsOf
  rw [List.take_succ_eq_append_getElem hk, List.map_append, List.map_append]
  rfl
theorem cell_heap {w w' : World} (h : w'.heap = w.heap) {a : Addr} {v : Value} (hc : w.cell? a = some v) : w'.cell? a = some v := by
  rw [← hc]
  simp only [World.cell?, h]
theorem sk_no {g : List UInt8 → List UInt8} {l : List Nd} {cs : List Int} {k : Nat} (hk : k ≤ cs.length) {t : List UInt8} (h : ∀ (j : Nat) (hj : j < cs.length), j < k → (g (txt l cs[j]) == t) = false) : (sk g l cs k).any (fun s => s == t) = false := by
  rw [List.any_eq_false]
  intro s hs
  unfold sk textsOf at hs
  rw [List.map_map, List.mem_map] at hs
  obtain ⟨c, hc, rfl⟩ := hs
  obtain ⟨j, hj, rfl⟩ := List.mem_iff_getElem.1 hc
  rw [List.length_take] at hj
  rw [List.getElem_take]
  have := h j (by omega) (by omega)
  simpa [txt] using this
theorem sk_yes {g : List UInt8 → List UInt8} {l : List Nd} {cs : List Int} {k j : Nat} (hj : j < cs.length) (hjk : j < k) {t : List UInt8} (h : (g (txt l cs[j]) == t) = true) : (sk g l cs k).any (fun s => s == t) = true := by
  rw [List.any_eq_true]
  refine ⟨g (txt l cs[j]), ?_, h⟩
  unfold sk textsOf
  rw [List.map_map, List.mem_map]
  refine ⟨cs[j], ?_, by simp [txt]⟩
  rw [List.mem_iff_getElem]
  exact ⟨j, by rw [List.length_take]; omega, by rw [List.getElem_take]⟩
set_option maxRecDepth 100000 in
set_option maxHeartbeats 16000000 in
theorem extra32 (l : List Nd) (n : Nat) (x : Nd) (lv : Value) (w : World) (h : Xh w lv l n x) (hkind : x.kind = 32) :
    Calls Tryz.prog 26 #[lv, .int .i64 (n : Int)] w (ExtraIs l x w) := by
  have hnd := h.st.nds
  have hlt := h.lt
  have hokx := h.okl x (List.mem_of_getElem? h.is)
  have hxe : l[n] = x := (List.getElem?_eq_some_iff.1 h.is).2
  obtain ⟨al, cl, rfl⟩ := hnd.shape
  obtain ⟨b, o, kv, rfl, hb2, d0, d1, d2, d3, d4⟩ := hnd.at n h.lt
  obtain ⟨av, cv, rfl⟩ := d4.shape
  have hcp := h.st.cap b o _ cl rfl n h.lt _ _ _ d2
  rw [hxe] at d0 d1 d2 d3 d4 hcp
  have HX := Lib.hid h
  obtain ⟨x0, x1, ks, x3⟩ := x
  simp only at d0 d1 d2 d3 d4 hcp hkind
  have hni : (n : Int) < (l.length : Int) := by omega
  have hn0 : (0 : Int) ≤ (n : Int) := by omega
  have HKd := Lib.hid (fun (W : World) (h : Below w.heap.size w W) => d4.below (Nat.le_refl _) h)
  have HNd := Lib.hid (fun (W : World) (h : Below w.heap.size w W) => hnd.below (Nat.le_refl _) h)
  subst hkind
  have he : rextraB l ⟨32, x1, ks, x3⟩ = unlikeB id (textsOf l ks) := by simp [rextraB]
  have HE : Hid (∀ w', Below w.heap.size w w' → ExtraIs l ⟨32, x1, ks, x3⟩ w (.returned (.bool (unlikeB id (textsOf l ks)))) w') := Lib.hid fun w' hb => ⟨by rw [he], hb⟩
  obtain ⟨R, hR⟩ : ∃ R, unlikeB id (textsOf l ks) = R := ⟨_, rfl⟩
  have HO : Hid (∀ k ∈ ks, 0 ≤ k ∧ k < (l.length : Int)) := Lib.hid fun k hk => by have := h.kids k hk; have := h.lt; omega
  have HOl := Lib.hid h.okl
  have hkl : ks.length < 1000000 := h.kl
  obtain ⟨cs, hcs⟩ : ∃ cs, ks = cs := ⟨_, rfl⟩
  rw [hR] at HE
  rw [hcs] at hR
  have HR0 : Hid (freshB id (sk id l cs 0) (textsOf l (cs.drop 0)) = R) := Lib.hid hR
  obtain ⟨m, hm⟩ : ∃ m, ks.length = m := ⟨_, rfl⟩
  have HCn : Hid (cs.length = m) := Lib.hid (by rw [← hcs]; exact hm)
  have HCk : Hid (∀ (j : Nat) (hj : j < cs.length) (hj2 : j < ks.length), cs[j] = ks[j]) := Lib.hid fun j hj hj2 => by simp only [← hcs]
  have HKd2 : Hid (∀ W, Below w.heap.size w W → KidsAt W (.slice av m cv) ks) := Lib.hid fun W hb => by rw [← hm]; exact HKd.out W hb
  have HKl : Hid (ks.length = m) := Lib.hid hm
  have hmc : (m : Int) ≤ (cv : Int) := by omega
  rw [hm] at hcp hkl d2
  have HA : Hid (Below w.heap.size w (w.alloc (.cells #[.int .i64 32, .string x1, .slice av m cv, .int .i64 x3] 40))) := Lib.hid ((Below.refl _ w).alloc (Nat.le_refl _) _)
  have hN := Has.new w 40 [.int .i64 32, .string x1, .slice av m cv, .int .i64 x3]
  clear he hR hcs HX HKd d4 hnd h hxe hlt hokx hm
  go_enter Tryz.func26, Tryz.ntmps26
  go_wp2
  generalize hW : World.alloc w (.cells #[.int .i64 32, .string x1, .slice av m cv, .int .i64 x3] 40) = w1 at HA hN ⊢
  generalize hNe : w.heap.size = N at hN ⊢
  have n2 := hN.cell 2
  have nl := hN.lt
  simp only [List.getElem?_cons_succ, List.getElem?_cons_zero] at n2
  clear hN hW d0 d1 d2 d3 
  go_loopw [102] (fun i wr => ∃ k : Nat, i = .int .i64 (k : Int) ∧ k ≤ m ∧ Hid (wr.heap = w1.heap) ∧ Hid (Below w.heap.size w wr) ∧ Hid (freshB id (sk id l cs k) (textsOf l (cs.drop k)) = R)) (fun i _ => m - (intOf i).toNat)
  case atStart => exact ⟨0, rfl, by omega, Lib.hid rfl, HA, HR0⟩
  case round =>
    obtain ⟨k, rfl, hkk, HW, HAw, HR⟩ := hrel
    replace n2 := cell_heap HW.out n2
    replace nl : N < wr.heap.size := by rw [HW.out]; exact nl
    clear HA
    have HA := HAw
    clear HAw
    by_cases hlt : k < m
    · have hk1 : (k : Int) < (m : Int) := by omega
      have hk0 : (0 : Int) ≤ (k : Int) := by omega
      have hkc : (k : Int) ≤ (cv : Int) := by omega
      have hkl2 : k < ks.length := by have := HKl.out; omega
      have hkcs : k < cs.length := by have := HCn.out; omega
      obtain ⟨g2, o2, hg1, hg2, z0⟩ := (HKd2.out _ HA.out).at k hkl2
      have hy := HO.out _ (List.getElem_mem hkl2)
      have HD := Lib.hid (fresh_drop (g := id) (l := l) (S := sk id l cs k) hkcs)
      have HSn := Lib.hid (sk_next (g := id) (l := l) hkcs)
      have hck := HCk.out k hkcs hkl2
      rw [hck] at HD HSn
      generalize ks[k] = y at z0 hy HD HSn 
      obtain ⟨q, rfl⟩ : ∃ q : Nat, y = (q : Int) := ⟨y.toNat, by omega⟩
      have hql : q < l.length := by omega
      have hqi : (q : Int) < (l.length : Int) := by omega
      have hq0 : (0 : Int) ≤ (q : Int) := by omega
      obtain ⟨b2, o3, kv2, hb1, hb3, e0, e1, -⟩ := (HNd.out _ HA.out).at q hql
      injection hb1 with hb1
      injection hb1 with hb4 hb5
      subst hb4 hb5
      have htx : txt l (q : Int) = l[q].text.data.toList := by simp [txt, ndAt, List.getD, hql]
      rw [htx] at HD HSn
      generalize l[q].text = tk at e1 HD HSn 
      simp only [id] at HD HSn
      subst hg1
      clear htx e0 hck 
      go_wp2
      go_loopw [112] (fun i wr2 => ∃ j : Nat, i = .int .i64 (j : Int) ∧ j ≤ k ∧ Hid (wr2.heap = w1.heap) ∧ Hid (Below w.heap.size w wr2) ∧ Hid (∀ (j2 : Nat) (hj : j2 < cs.length), j2 < j → (id (txt l cs[j2]) == tk.data.toList) = false)) (fun i _ => k - (intOf i).toNat)
      case atStart => exact ⟨0, rfl, by omega, HW, HA, Lib.hid (fun j2 hj h => by omega)⟩
      case round =>
        obtain ⟨j, rfl, hjk, HW2, HAw2, HNo⟩ := hrel
        replace e1 := cell_heap (HW2.out.trans HW.out.symm) e1
        clear HA n2 nl z0
        have HA := HAw2
        clear HAw2
        by_cases hjlt : j < k
        · have hj1 : (j : Int) < (k : Int) := by omega
          have hjl2 : j < ks.length := by omega
          have hjcs : j < cs.length := by omega
          obtain ⟨g3, o4, hg3, hg4, z1⟩ := (HKd2.out _ HA.out).at j hjl2
          injection hg3 with hg3
          injection hg3 with hg5 hg6
          subst hg5 hg6
          have hy2 := HO.out _ (List.getElem_mem hjl2)
          have hcj := HCk.out j hjcs hjl2
          have HTj : Hid (txt l cs[j] = txt l ks[j]) := Lib.hid (by rw [hcj])
          generalize ks[j] = y2 at z1 hy2 HTj 
          obtain ⟨q2, rfl⟩ : ∃ q2 : Nat, y2 = (q2 : Int) := ⟨y2.toNat, by omega⟩
          have hql2 : q2 < l.length := by omega
          have hqi2 : (q2 : Int) < (l.length : Int) := by omega
          have hq02 : (0 : Int) ≤ (q2 : Int) := by omega
          obtain ⟨b3, o5, kv3, hb6, hb7, f0, f1, -⟩ := (HNd.out _ HA.out).at q2 hql2
          injection hb6 with hb6
          injection hb6 with hb8 hb9
          subst hb8 hb9
          have htx2 : txt l (q2 : Int) = l[q2].text.data.toList := by simp [txt, ndAt, List.getD, hql2]
          rw [htx2] at HTj
          generalize l[q2].text = tm at f1 HTj 
          obtain ⟨bb, hbb⟩ : ∃ bb, (tk.toList == tm.toList) = bb := ⟨_, rfl⟩
          have HCmp : Hid ((id (txt l cs[j]) == tk.data.toList) = bb) := Lib.hid (by
            rw [HTj.out, ← hbb, same_text]
            exact Bool.beq_comm)
          clear htx2 f0 hcj
          cases bb
          · have HNo2 : Hid (∀ (j2 : Nat) (hj : j2 < cs.length), j2 < j + 1 → (id (txt l cs[j2]) == tk.data.toList) = false) := Lib.hid fun j2 hj h => by
              rcases Nat.lt_or_ge j2 j with h3 | h3
              · exact HNo.out j2 hj h3
              · have : j2 = j := by omega
                subst this
                exact HCmp.out
            clear HNo HCmp
            go_wp2
            go_region
            go_wp2
            go_roundw
            case rel => exact ⟨j + 1, by go_num, by omega, (by first | exact HW2 | exact Lib.hid HW2.out), (by first | exact HA | exact Lib.hid (Below.drew HA.out)), HNo2⟩
            case measure => simp [intOf]; omega
          · have hyes := sk_yes (g := id) (l := l) hjcs hjlt HCmp.out
            have hRf : R = false := by rw [← HR.out, HD.out, hyes]; rfl
            subst hRf
            clear HNo HCmp HD HSn hyes
            go_wp2
            go_region
            go_wp2
            go_ret
            exact HE.out _ (by first | exact HA.out | exact Below.drew HA.out)
        · have hjke : j = k := by omega
          have hno := sk_no (g := id) (l := l) (cs := cs) (k := k) (by omega) (fun j2 hj h => HNo.out j2 hj (by omega))
          have HR2 : Hid (freshB id (sk id l cs (k + 1)) (textsOf l (cs.drop (k + 1))) = R) := Lib.hid (by rw [← HR.out, HD.out, hno, HSn.out]; rfl)
          subst hjke
          clear hno HNo HD HSn
          go_wp2
          go_roundw
          case rel => exact ⟨j + 1, by go_num, by omega, (by first | exact HW2 | exact Lib.hid HW2.out), (by first | exact HA | exact Lib.hid (Below.drew HA.out)), HR2⟩
          case measure => simp [intOf]; omega
    · have hRt : R = true := by
        rw [← HR.out, List.drop_eq_nil_of_le (by have := HCn.out; omega)]
        rfl
      have hkm : k = m := by omega
      subst hRt hkm
      go_wp2
      go_ret
      exact HE.out _ (by first | exact HA.out | exact Below.drew HA.out)
set_option maxRecDepth 100000 in
set_option maxHeartbeats 16000000 in
theorem extra1 (l : List Nd) (n : Nat) (x : Nd) (lv : Value) (w : World) (h : Xh w lv l n x) (hkind : x.kind = 1) :
    Calls Tryz.prog 26 #[lv, .int .i64 (n : Int)] w (ExtraIs l x w) := by
  have hnd := h.st.nds
  have hlt := h.lt
  have hokx := h.okl x (List.mem_of_getElem? h.is)
  have hxe : l[n] = x := (List.getElem?_eq_some_iff.1 h.is).2
  obtain ⟨al, cl, rfl⟩ := hnd.shape
  obtain ⟨b, o, kv, rfl, hb2, d0, d1, d2, d3, d4⟩ := hnd.at n h.lt
  obtain ⟨av, cv, rfl⟩ := d4.shape
  have hcp := h.st.cap b o _ cl rfl n h.lt _ _ _ d2
  rw [hxe] at d0 d1 d2 d3 d4 hcp
  have HX := Lib.hid h
  obtain ⟨x0, x1, ks, x3⟩ := x
  simp only at d0 d1 d2 d3 d4 hcp hkind
  have hni : (n : Int) < (l.length : Int) := by omega
  have hn0 : (0 : Int) ≤ (n : Int) := by omega
  have HKd := Lib.hid (fun (W : World) (h : Below w.heap.size w W) => d4.below (Nat.le_refl _) h)
  have HNd := Lib.hid (fun (W : World) (h : Below w.heap.size w W) => hnd.below (Nat.le_refl _) h)
  subst hkind
  have he : rextraB l ⟨1, x1, ks, x3⟩ = unlikeB (·.take 1) (textsOf l ks.dropLast) := by simp [rextraB]
  have HE : Hid (∀ w', Below w.heap.size w w' → ExtraIs l ⟨1, x1, ks, x3⟩ w (.returned (.bool (unlikeB (·.take 1) (textsOf l ks.dropLast)))) w') := Lib.hid fun w' hb => ⟨by rw [he], hb⟩
  obtain ⟨R, hR⟩ : ∃ R, unlikeB (·.take 1) (textsOf l ks.dropLast) = R := ⟨_, rfl⟩
  have HO : Hid (∀ k ∈ ks, 0 ≤ k ∧ k < (l.length : Int)) := Lib.hid fun k hk => by have := h.kids k hk; have := h.lt; omega
  have HOl := Lib.hid h.okl
  have hkl : ks.length < 1000000 := h.kl
  obtain ⟨cs, hcs⟩ : ∃ cs, ks.dropLast = cs := ⟨_, rfl⟩
  rw [hR] at HE
  rw [hcs] at hR
  have HR0 : Hid (freshB (·.take 1) (sk (·.take 1) l cs 0) (textsOf l (cs.drop 0)) = R) := Lib.hid hR
  have hfp := fit_prog h.fit
  have hpos : 0 < ks.length := by
    have hkn : (kindsOf l ks).length = ks.length := by simp [kindsOf]
    have h1 : 0 < (kindsOf l ks).length := hfp.1
    omega
  obtain ⟨m, hm⟩ : ∃ m, ks.length = m + 1 := ⟨ks.length - 1, by omega⟩
  have HCn : Hid (cs.length = m) := Lib.hid (by rw [← hcs, List.length_dropLast]; omega)
  have HCk : Hid (∀ (j : Nat) (hj : j < cs.length) (hj2 : j < ks.length), cs[j] = ks[j]) := Lib.hid fun j hj hj2 => by simp only [← hcs]; exact List.getElem_dropLast _
  have HCh : Hid (∀ k ∈ cs, chanB (ndAt l k).text = true) := Lib.hid fun k hk => by
    have hkm : k ∈ ks.dropLast := by rw [hcs]; exact hk
    have hk0 : kindAt l k = 2 := hfp.2 _ (by unfold kindsOf; rw [map_dropLast]; exact List.mem_map_of_mem hkm)
    have hkk := h.kids k (List.dropLast_subset _ hkm)
    obtain ⟨q, rfl⟩ : ∃ q : Nat, k = (q : Int) := ⟨k.toNat, by omega⟩
    have hq : q < l.length := by have := h.lt; omega
    have hg := (h.dn q l[q] (by omega) (List.getElem?_eq_getElem hq)).text
    rw [kindAt_q hq] at hk0
    rw [ndAt_q hq]
    unfold textB at hg
    rw [if_pos hk0] at hg
    exact hg
  have hcp1 : (m : Int) + 1 ≤ (cv : Int) := by omega
  have hmc : (m : Int) ≤ (cv : Int) := by omega
  have hm0 : (0 : Int) ≤ (m : Int) := by omega
  have hmw : wrap64 (m : Int) = (m : Int) := NumM.w64_id (by omega) (by omega)
  have HKd2 : Hid (∀ W, Below w.heap.size w W → KidsAt W (.slice av (m + 1) cv) ks) := Lib.hid fun W hb => by rw [← hm]; exact HKd.out W hb
  have HKl : Hid (ks.length = m + 1) := Lib.hid hm
  clear hfp hpos
  rw [hm] at hcp hkl d2
  have HA : Hid (Below w.heap.size w (w.alloc (.cells #[.int .i64 1, .string x1, .slice av (m + 1) cv, .int .i64 x3] 40))) := Lib.hid ((Below.refl _ w).alloc (Nat.le_refl _) _)
  have hN := Has.new w 40 [.int .i64 1, .string x1, .slice av (m + 1) cv, .int .i64 x3]
  clear he hR hcs HX HKd d4 hnd h hxe hlt hokx hm
  go_enter Tryz.func26, Tryz.ntmps26
  go_wp2
  generalize hW : World.alloc w (.cells #[.int .i64 1, .string x1, .slice av (m + 1) cv, .int .i64 x3] 40) = w1 at HA hN ⊢
  generalize hNe : w.heap.size = N at hN ⊢
  have n2 := hN.cell 2
  have nl := hN.lt
  simp only [List.getElem?_cons_succ, List.getElem?_cons_zero] at n2
  clear hN hW d0 d1 d2 d3 hmw hcp1
  go_loopw [139] (fun i wr => ∃ k : Nat, i = .int .i64 (k : Int) ∧ k ≤ m ∧ Hid (wr.heap = w1.heap) ∧ Hid (Below w.heap.size w wr) ∧ Hid (freshB (·.take 1) (sk (·.take 1) l cs k) (textsOf l (cs.drop k)) = R)) (fun i _ => m - (intOf i).toNat)
  case atStart => exact ⟨0, rfl, by omega, Lib.hid rfl, HA, HR0⟩
  case round =>
    obtain ⟨k, rfl, hkk, HW, HAw, HR⟩ := hrel
    replace n2 := cell_heap HW.out n2
    replace nl : N < wr.heap.size := by rw [HW.out]; exact nl
    clear HA
    have HA := HAw
    clear HAw
    by_cases hlt : k < m
    · have hk1 : (k : Int) < (m : Int) := by omega
      have hk0 : (0 : Int) ≤ (k : Int) := by omega
      have hkc : (k : Int) ≤ (cv : Int) := by omega
      have hkl2 : k < ks.length := by have := HKl.out; omega
      have hkcs : k < cs.length := by have := HCn.out; omega
      obtain ⟨g2, o2, hg1, hg2, z0⟩ := (HKd2.out _ HA.out).at k hkl2
      have hy := HO.out _ (List.getElem_mem hkl2)
      have HD := Lib.hid (fresh_drop (g := (·.take 1)) (l := l) (S := sk (·.take 1) l cs k) hkcs)
      have HSn := Lib.hid (sk_next (g := (·.take 1)) (l := l) hkcs)
      have hck := HCk.out k hkcs hkl2
      have hchk := HCh.out _ (List.getElem_mem hkcs)
      rw [hck] at hchk
      rw [hck] at HD HSn
      generalize ks[k] = y at z0 hy HD HSn hchk
      obtain ⟨q, rfl⟩ : ∃ q : Nat, y = (q : Int) := ⟨y.toNat, by omega⟩
      have hql : q < l.length := by omega
      have hqi : (q : Int) < (l.length : Int) := by omega
      have hq0 : (0 : Int) ≤ (q : Int) := by omega
      obtain ⟨b2, o3, kv2, hb1, hb3, e0, e1, -⟩ := (HNd.out _ HA.out).at q hql
      injection hb1 with hb1
      injection hb1 with hb4 hb5
      subst hb4 hb5
      have htx : txt l (q : Int) = l[q].text.data.toList := by simp [txt, ndAt, List.getD, hql]
      rw [htx] at HD HSn
      rw [ndAt_q hql] at hchk
      generalize l[q].text = tk at e1 HD HSn hchk
      obtain ⟨ik, hik8, hszk, hbk, htkk⟩ := chan_byte hchk
      rw [byte0 hszk] at hbk
      have hszki : (0 : Int) < (tk.size : Int) := by omega
      rw [htkk] at HD HSn
      subst hg1
      clear htx e0 hck hchk
      go_wp2
      go_loopw [149] (fun i wr2 => ∃ j : Nat, i = .int .i64 (j : Int) ∧ j ≤ k ∧ Hid (wr2.heap = w1.heap) ∧ Hid (Below w.heap.size w wr2) ∧ Hid (∀ (j2 : Nat) (hj : j2 < cs.length), j2 < j → ((·.take 1) (txt l cs[j2]) == [UInt8.ofNat (48 + ik)]) = false)) (fun i _ => k - (intOf i).toNat)
      case atStart => exact ⟨0, rfl, by omega, HW, HA, Lib.hid (fun j2 hj h => by omega)⟩
      case round =>
        obtain ⟨j, rfl, hjk, HW2, HAw2, HNo⟩ := hrel
        replace e1 := cell_heap (HW2.out.trans HW.out.symm) e1
        clear HA n2 nl z0
        have HA := HAw2
        clear HAw2
        by_cases hjlt : j < k
        · have hj1 : (j : Int) < (k : Int) := by omega
          have hjl2 : j < ks.length := by omega
          have hjcs : j < cs.length := by omega
          obtain ⟨g3, o4, hg3, hg4, z1⟩ := (HKd2.out _ HA.out).at j hjl2
          injection hg3 with hg3
          injection hg3 with hg5 hg6
          subst hg5 hg6
          have hy2 := HO.out _ (List.getElem_mem hjl2)
          have hcj := HCk.out j hjcs hjl2
          have hchj := HCh.out _ (List.getElem_mem hjcs)
          rw [hcj] at hchj
          have HTj : Hid (txt l cs[j] = txt l ks[j]) := Lib.hid (by rw [hcj])
          generalize ks[j] = y2 at z1 hy2 HTj hchj
          obtain ⟨q2, rfl⟩ : ∃ q2 : Nat, y2 = (q2 : Int) := ⟨y2.toNat, by omega⟩
          have hql2 : q2 < l.length := by omega
          have hqi2 : (q2 : Int) < (l.length : Int) := by omega
          have hq02 : (0 : Int) ≤ (q2 : Int) := by omega
          obtain ⟨b3, o5, kv3, hb6, hb7, f0, f1, -⟩ := (HNd.out _ HA.out).at q2 hql2
          injection hb6 with hb6
          injection hb6 with hb8 hb9
          subst hb8 hb9
          have htx2 : txt l (q2 : Int) = l[q2].text.data.toList := by simp [txt, ndAt, List.getD, hql2]
          rw [htx2] at HTj
          rw [ndAt_q hql2] at hchj
          generalize l[q2].text = tm at f1 HTj hchj
          obtain ⟨im, him8, hszm, hbm, htkm⟩ := chan_byte hchj
          rw [byte0 hszm] at hbm
          have hszmi : (0 : Int) < (tm.size : Int) := by omega
          have HG : Hid ((txt l cs[j]).take 1 = [UInt8.ofNat (48 + im)]) := Lib.hid (by rw [HTj.out]; exact htkm)
          obtain ⟨bb, hbb⟩ : ∃ bb, (((tk[0]'hszk).toNat : Int) == ((tm[0]'hszm).toNat : Int)) = bb := ⟨_, rfl⟩
          have HCmp : Hid (((txt l cs[j]).take 1 == [UInt8.ofNat (48 + ik)]) = bb) := Lib.hid (by
            rw [HG.out, ← hbb]
            by_cases e : im = ik
            · subst e
              have : (tk[0]'hszk).toNat = (tm[0]'hszm).toNat := by omega
              rw [this]
              simp
            · have h1 : ([UInt8.ofNat (48 + im)] == [UInt8.ofNat (48 + ik)]) = false := by
                simp only [beq_eq_false_iff_ne, ne_eq, List.cons.injEq, and_true]
                intro h
                have := congrArg UInt8.toNat h
                rw [UInt8.toNat_ofNat', UInt8.toNat_ofNat'] at this
                omega
              rw [h1]
              symm
              simp only [beq_eq_false_iff_ne, ne_eq]
              omega)
          clear htkm hchj
          clear htx2 f0 hcj
          cases bb
          · have HNo2 : Hid (∀ (j2 : Nat) (hj : j2 < cs.length), j2 < j + 1 → ((·.take 1) (txt l cs[j2]) == [UInt8.ofNat (48 + ik)]) = false) := Lib.hid fun j2 hj h => by
              rcases Nat.lt_or_ge j2 j with h3 | h3
              · exact HNo.out j2 hj h3
              · have : j2 = j := by omega
                subst this
                exact HCmp.out
            clear HNo HCmp
            go_wp2
            go_region
            go_wp2
            go_roundw
            case rel => exact ⟨j + 1, by go_num, by omega, (by first | exact HW2 | exact Lib.hid HW2.out), (by first | exact HA | exact Lib.hid (Below.drew HA.out)), HNo2⟩
            case measure => simp [intOf]; omega
          · have hyes := sk_yes (g := (·.take 1)) (l := l) hjcs hjlt HCmp.out
            have hRf : R = false := by rw [← HR.out, HD.out, hyes]; rfl
            subst hRf
            clear HNo HCmp HD HSn hyes
            go_wp2
            go_region
            go_wp2
            go_ret
            exact HE.out _ (by first | exact HA.out | exact Below.drew HA.out)
        · have hjke : j = k := by omega
          have hno := sk_no (g := (·.take 1)) (l := l) (cs := cs) (k := k) (by omega) (fun j2 hj h => HNo.out j2 hj (by omega))
          have HR2 : Hid (freshB (·.take 1) (sk (·.take 1) l cs (k + 1)) (textsOf l (cs.drop (k + 1))) = R) := Lib.hid (by rw [← HR.out, HD.out, hno, HSn.out]; rfl)
          subst hjke
          clear hno HNo HD HSn
          go_wp2
          go_roundw
          case rel => exact ⟨j + 1, by go_num, by omega, (by first | exact HW2 | exact Lib.hid HW2.out), (by first | exact HA | exact Lib.hid (Below.drew HA.out)), HR2⟩
          case measure => simp [intOf]; omega
    · have hRt : R = true := by
        rw [← HR.out, List.drop_eq_nil_of_le (by have := HCn.out; omega)]
        rfl
      have hkm : k = m := by omega
      subst hRt hkm
      go_wp2
      go_ret
      exact HE.out _ (by first | exact HA.out | exact Below.drew HA.out)
theorem extra_any (l : List Nd) (n : Nat) (x : Nd) (lv : Value) (w : World) (h : Xh w lv l n x) : Calls Tryz.prog 26 #[lv, .int .i64 (n : Int)] w (ExtraIs l x w) := by
  by_cases h1 : x.kind = 1
  · exact extra1 l n x lv w h h1
  · by_cases h3 : x.kind = 3
    · exact extra3 l n x lv w h h3
    · by_cases h67 : x.kind = 6 ∨ x.kind = 7
      · exact extra67 l n x lv w h h67
      · by_cases h21 : x.kind = 21
        · exact extra21 l n x lv w h h21
        · by_cases h32 : x.kind = 32
          · exact extra32 l n x lv w h h32
          · exact extraElse l n x lv w h ⟨h1, h3, fun e => h67 (.inl e), fun e => h67 (.inr e), h21, h32⟩
end TreeD
end Go.Proofs.YtmdkocegnbcgmaaGreatDoor
namespace Go.Proofs.YtmdkocegnbcgmaaGreatDoor
open Go.RowKit ObjM
namespace TreeD

noncomputable def rownB (l : List Nd) (x : Nd) : Bool := decide (0 ≤ x.pos) && (rfitB x.kind (kindsOf l x.kids) && (rtextB x && rextraB l x))
theorem byte_dig : ∀ b : UInt8, (NumM.numV [b]).2 = true → 48 ≤ b.toNat := by
  intro b h
  unfold NumM.numV NumM.decV NumM.decF at h
  have hp : Lib.hasPrefix [b] [48, 120] = false := by
    unfold Lib.hasPrefix
    show (([48, 120] : List UInt8).isPrefixOf [b]) = false
    rw [List.isPrefixOf_cons_cons]
    exact Bool.and_false _
  rw [if_neg (by rw [hp]; decide), if_neg (by simp)] at h
  rcases Nat.lt_or_ge b.toNat 48 with h1 | h1
  · exfalso
    have hd : NumM.digV (b.toNat : Int) = 16 := by
      unfold NumM.digV
      rw [if_neg (by omega), if_neg (by omega), if_neg (by omega)]
    rw [hd, if_pos (.inl (by omega))] at h
    cases h
  · exact h1
theorem arg_same {l : List Nd} {x : Nd} {i : Nat} (hi : i ≤ l.length) (hD : Done l i) (hk : ∀ k ∈ x.kids, 0 ≤ k ∧ k < (i : Int)) : (decide (0 ≤ builtinV x.text) && argsB l x) = (decide (builtinV x.text = (x.kids.length : Int)) && rargsB l x) := by
  by_cases he : builtinV x.text = (x.kids.length : Int)
  · have h0 : 0 ≤ builtinV x.text := by omega
    rw [decide_eq_true h0, decide_eq_true he, Bool.true_and, Bool.true_and]
    unfold argsB rargsB
    rw [decide_eq_true he.symm, Bool.true_and]
    by_cases hm : memB [READ, WRITE] x.text = true
    · rw [if_pos hm, if_pos hm]
      have hpos : 0 < x.kids.length := by
        rcases (by simpa using (memB_iff _ _).1 hm : x.text = READ ∨ x.text = WRITE) with h | h
        · rw [h] at he
          have : builtinV READ = 1 := by decide +kernel
          omega
        · rw [h] at he
          have : builtinV WRITE = 2 := by decide +kernel
          omega
      obtain ⟨k, r, hks⟩ : ∃ k r, x.kids = k :: r := by
        cases hxk : x.kids with
        | nil => rw [hxk] at hpos; simp at hpos
        | cons a r => exact ⟨a, r, rfl⟩
      have hkk := hk k (by rw [hks]; simp)
      rw [hks]
      simp only [List.getD_cons_zero]
      unfold firstB digitB
      by_cases hk15 : kindAt l k = 15
      · rw [decide_eq_true hk15, Bool.true_and, Bool.true_and]
        by_cases hs : (ndAt l k).text.size = 1
        · rw [decide_eq_true hs, Bool.true_and, Bool.true_and]
          obtain ⟨q, rfl⟩ : ∃ q : Nat, k = (q : Int) := ⟨k.toNat, by omega⟩
          have hq : q < l.length := by omega
          have hg := (hD q l[q] (by omega) (List.getElem?_eq_getElem hq)).text
          rw [kindAt_q hq] at hk15
          rw [ndAt_q hq] at hs ⊢
          unfold textB at hg
          rw [if_neg (by omega), if_neg (by omega), if_neg (by omega), if_neg (by omega), if_pos hk15] at hg
          unfold intB at hg
          have hn := (Bool.and_eq_true _ _ ▸ hg : _ ∧ _).1
          have hlen : l[q].text.data.toList.length = 1 := by rw [Array.length_toList]; exact hs
          obtain ⟨b, hb⟩ : ∃ b, l[q].text.data.toList = [b] := by
            cases hL : l[q].text.data.toList with
            | nil => rw [hL] at hlen; simp at hlen
            | cons a r =>
              rw [hL] at hlen
              cases r with
              | nil => exact ⟨a, rfl⟩
              | cons c r => simp at hlen
          rw [hb] at hn
          have := byte_dig b hn
          have hby : byteAt l[q].text 0 = b.toNat := by unfold byteAt; rw [hb]; rfl
          rw [hby, decide_eq_true this, Bool.true_and]
        · rw [decide_eq_false hs]; rfl
      · rw [decide_eq_false hk15]; rfl
    · rw [if_neg hm, if_neg hm]
  · have h1 : argsB l x = false := arg_len fun e => he e.symm
    rw [h1, decide_eq_false he]
    simp
theorem rest_same {l : List Nd} {x : Nd} {i : Nat} (hi : i ≤ l.length) (hD : Done l i) (hk : ∀ k ∈ x.kids, 0 ≤ k ∧ k < (i : Int)) : (textB x && restB l x) = (rtextB x && rextraB l x) := by
  by_cases h21 : x.kind = 21
  · have e1 : textB x = decide (0 ≤ builtinV x.text) := by
      unfold textB
      rw [if_neg (by omega), if_neg (by omega), if_neg (by omega), if_neg (by omega), if_neg (by omega), if_neg (by omega), if_pos h21]
    have e2 : restB l x = argsB l x := by
      unfold restB
      rw [if_neg (by omega), if_neg (by omega), if_neg (by omega), if_pos h21]
    have e3 : rtextB x = decide (builtinV x.text = (x.kids.length : Int)) := by
      unfold rtextB
      rw [if_pos h21]
    have e4 : rextraB l x = rargsB l x := by
      unfold rextraB
      rw [if_neg (by omega), if_neg (by omega), if_pos h21]
    rw [e1, e2, e3, e4]
    exact arg_same hi hD hk
  · have e3 : rtextB x = textB x := by
      unfold rtextB
      rw [if_neg h21]
    have e4 : rextraB l x = restB l x := by
      unfold rextraB restB
      by_cases h3 : x.kind = 3
      · rw [if_pos h3, if_neg (by omega), if_pos h3]
      rw [if_neg h3]
      by_cases h1 : x.kind = 1
      · rw [if_pos h1, if_neg (by omega), if_neg (by omega), if_neg (by omega), if_pos h1]
      rw [if_neg h1, if_neg h1, if_neg h3, if_neg h21, if_neg h21]
    rw [e3, e4]
theorem own_same {l : List Nd} {x : Nd} {i : Nat} (hi : i ≤ l.length) (hD : Done l i) (hk : ∀ k ∈ x.kids, 0 ≤ k ∧ k < (i : Int)) : ownB l x = rownB l x := by
  unfold ownB rownB
  by_cases hr : 1 ≤ x.kind ∧ x.kind ≤ 36
  · rw [decide_eq_true hr.1, decide_eq_true hr.2, Bool.true_and, Bool.true_and, fit_same _ hr.1 hr.2, rest_same hi hD hk]
  · have hf : rfitB x.kind (kindsOf l x.kids) = false := by
      cases hb : rfitB x.kind (kindsOf l x.kids)
      · rfl
      · exact absurd (rfit_kind hb) hr
    rw [hf]
    simp only [Bool.false_and, Bool.and_false]
    by_cases h1 : 1 ≤ x.kind
    · have h2 : ¬ x.kind ≤ 36 := fun e => hr ⟨h1, e⟩
      rw [decide_eq_false h2]
      simp
    · rw [decide_eq_false h1]
      simp
/-- What the document asks of the whole, from a node on. -/
def rwholeFrom (l : List Nd) (u : List Bool) (k : Nat) : Bool := (List.range' k (l.length - k)).all fun n => (decide (kindAt l n = 1) == decide (n = l.length - 1)) && !(u.getD n false == decide (n = l.length - 1))
theorem rwhole_step {l : List Nd} {u : List Bool} {k : Nat} (h : k < l.length) : rwholeFrom l u k = (((decide (kindAt l k = 1) == decide (k = l.length - 1)) && !(u.getD k false == decide (k = l.length - 1))) && rwholeFrom l u (k + 1)) := by
  unfold rwholeFrom
  obtain ⟨m, hm⟩ : ∃ m, l.length - k = m + 1 := ⟨l.length - k - 1, by omega⟩
  have hm2 : l.length - (k + 1) = m := by omega
  rw [hm, hm2]
  rfl
theorem rwhole_end {l : List Nd} {u : List Bool} {k : Nat} (h : ¬ k < l.length) : rwholeFrom l u k = true := by
  unfold rwholeFrom
  have : l.length - k = 0 := by omega
  rw [this]
  rfl
theorem rwhole_same {l : List Nd} {u : List Bool} (h0 : 0 < l.length) (hu : u.getD (l.length - 1) false = false) : rwholeFrom l u 0 = wholeB l u := by
  have hk : kindAt l ((l.length : Int) - 1) = kindAt l ((l.length - 1 : Nat) : Int) := by
    congr 1
    omega
  rw [Bool.eq_iff_iff]
  unfold rwholeFrom wholeB
  rw [hk]
  simp only [List.all_eq_true, List.mem_range'_1, List.mem_range, Bool.and_eq_true, decide_eq_true_eq, Bool.not_eq_true', beq_iff_eq, beq_eq_false_iff_ne, ne_eq, decide_eq_false_iff_not]
  constructor
  · intro h
    refine ⟨?_, ?_⟩
    · have := (h (l.length - 1) ⟨by omega, by omega⟩).1
      simpa using this
    · intro n hn
      have h2 := h n ⟨by omega, by omega⟩
      have hne : ¬ n = l.length - 1 := by omega
      rw [decide_eq_false hne] at h2
      exact ⟨by simpa using h2.2, by simpa using h2.1⟩
  · rintro ⟨h1, h2⟩ n ⟨-, hn⟩
    by_cases he : n = l.length - 1
    · subst he
      rw [decide_eq_true rfl, hu, decide_eq_true h1]
      simp
    · have h3 := h2 n (by omega)
      rw [decide_eq_false he, decide_eq_false h3.2, h3.1]
      simp
/-- The last node is no kid. -/
theorem take_last {n m : Nat} (hm : n ≤ m) : ∀ {ks : List Int} {u u' : List Bool}, takeKids n ks u = some u' → u'.getD m false = u.getD m false
  | [], u, u', h => by injection h with h; rw [h]
  | k :: r, u, u', h => by
    unfold takeKids at h
    split at h
    · rename_i hc
      rw [take_last hm h]
      have : k.toNat ≠ m := by omega
      simp only [List.getD_eq_getElem?_getD]
      rw [List.getElem?_set_ne this]
    · cases h
theorem go_last {l : List Nd} {m : Nat} : ∀ (r : List Nd) {i : Nat} {u u' : List Bool}, i + r.length ≤ m + 1 → goV l i r u = .inr u' → u'.getD m false = u.getD m false
  | [], i, u, u', _, h => by injection h with h; rw [h]
  | x :: r, i, u, u', hm, h => by
    unfold goV at h
    simp only [List.length_cons] at hm
    split at h
    · cases h
    · rename_i v hv
      rw [go_last r (by omega) h]
      exact take_last (by omega) (step_good hv).2
end TreeD
end Go.Proofs.YtmdkocegnbcgmaaGreatDoor

namespace Go.Proofs.YtmdkocegnbcgmaaGreatDoor
open Go.RowKit ObjM
namespace TreeD

theorem at_add (g k : Nat) : (⟨g, 0, none⟩ : Addr).add k = ⟨g, k, none⟩ := by
  simp [Addr.add]
  intro h
  exact h.symm
theorem wpList_append_run {P : Program} {ops : Array Oper} {o : Oper} {rest : List Oper} {a : Act} {w : World} {Q : Exit → Act → World → Prop} (hw : Region.wanted o (yielded ops a.tmps) = true)
    (s x : Operand) (t : TypeId) (hop : o.op = Op.call { callee := Callee.builtin Builtin.append, args := #[s, x], argTypes := #[t, t] }) (v' : Value) (w' : World) (v u : Value) (hs : a.eval s = v) (hx : a.eval x = u)
    (hrun : (Builtin.append_ #[t, t] o.type #[v, u]).run P w = .ok v' w') (hK : wpList P ops Q rest (a.put o.dst v') w') : wpList P ops Q (o :: rest) a w := by
  unfold wpList
  rw [if_pos hw]
  refine .inl ?_
  subst hs hx
  unfold Oper.wp
  simp [execOp, hop, resolve, invoke, builtin, hrun, Result.andThen]
  exact hK
theorem infoIntT : (Tryz.prog.info? 3).map (fun i => (i.zero, i.size, i.bytes)) = some (some (.int .i64 0), 1, 8) := by kernel_rfl
set_option maxRecDepth 100000 in
/-- A number is put behind a row of numbers. -/
theorem app_int (ty : TypeId) {W : World} {B : Nat} {v : Value} {zs : List Int} (z : Int) (h : W.ownsRow B 3 1 v zs.length (zs.map (Value.int .i64))) (hn : zs.length ≤ 1000000) (hB : B ≤ W.heap.size) (ad c0 : Nat) (hc : W.cell? ⟨ad, 0, none⟩ = some (.int .i64 z)) :
    ∃ v2 W2, (Builtin.append_ #[31, 31] ty #[v, .slice (some ⟨ad, 0, none⟩) 1 c0]).run Tryz.prog W = .ok v2 W2 ∧ W2.ownsRow B 3 1 v2 (zs ++ [z]).length ((zs ++ [z]).map (Value.int .i64)) ∧ W.grownBy W2 v.ownBlock := by
  obtain ⟨i0, hi, hz0, hz1, hz2⟩ := info_parts infoIntT
  obtain ⟨v2, w5, hrun, ho, hk5, -, -⟩ := run_append_own_at (P := Tryz.prog) (w := W) B 31 ty 3 i0 (.int .i64 0) 1 8 Tryz.underlying31 hi hz0 hz1 hz2 rfl (by decide) v _ _ h ⟨ad, 0, none⟩ 1 c0 [.int .i64 z] rfl
    (fun k u hk => by
      have hk1 := (List.getElem?_eq_some_iff.1 hk).1
      simp at hk1
      subst hk1
      simp at hk
      subst hk
      rw [at_add]
      exact hc)
    (fun u hu => by simp at hu; rw [hu]; rfl) (by unfold maxLen; omega) (by omega) hB
  exact ⟨v2, w5, hrun, by simpa using ho, hk5⟩
/-- Numbers that are one's own are numbers in memory. -/
theorem own_kids {W : World} {B : Nat} {v : Value} {zs : List Int} (h : W.ownsRow B 3 1 v zs.length (zs.map (Value.int .i64))) : KidsAt W v zs := by
  rcases own_shape h with ⟨h1, h2, h3⟩ | ⟨g, cap, cs, h1, -, h3, -, -, -, -⟩
  · have : zs = [] := List.eq_nil_of_length_eq_zero h2
    subst this
    exact ⟨none, 0, h1, .inl rfl⟩
  · subst h1
    refine ⟨_, cap, rfl, .inr ⟨g, 0, rfl, h3.lt, ?_⟩⟩
    intro i x hx
    have hi := (List.getElem?_eq_some_iff.1 hx).1
    have hc := own_cell h i (by simpa using hi)
    rw [Nat.zero_add, hc]
    have := (List.getElem?_eq_some_iff.1 hx).2
    simp [this]
/-- While kids are taken. -/
structure AtI (w wr : World) (D N : Nat) (nd : List Value) (v : List Bool) (sv : Value) (zs : List Int) : Prop where
  b : Below w.heap.size w wr
  d : Has wr D 4 (v.map Value.bool)
  n : Has wr N 40 nd
  o : wr.ownsRow w.heap.size 3 1 sv zs.length (zs.map (Value.int .i64))
  db : w.heap.size ≤ D
theorem AtI.push {w wr : World} {D N : Nat} {nd : List Value} {v : List Bool} {sv : Value} {zs : List Int} (h : AtI w wr D N nd v sv zs) (ty : TypeId) (q : Nat) (z : Int) (hn : zs.length ≤ 1000000) :
    ∃ v2 W2, (Builtin.append_ #[31, 31] ty #[sv, .slice (some ⟨wr.heap.size, 0, none⟩) 1 1]).run Tryz.prog ((wr.setCell ⟨D, q, none⟩ (.bool true)).alloc (.cells #[.int .i64 z] 3)) = .ok v2 W2 ∧ AtI w W2 D N nd (v.set q true) v2 (zs ++ [z]) := by
  have hsz : (wr.setCell ⟨D, q, none⟩ (.bool true)).heap.size = wr.heap.size := by simp [World.setCell]
  have hBw := h.b.size
  have hD := own_ne h.o h.d (by decide +kernel)
  have hDN : D ≠ N := h.d.ne h.n (by decide +kernel)
  have ho1 : (wr.setCell ⟨D, q, none⟩ (.bool true)).ownsRow w.heap.size 3 1 sv zs.length (zs.map (Value.int .i64)) := own_keeps h.o (Keeps.set _ D q _) (fun g hg => by simpa using hD g hg)
  have hd1 : Has (wr.setCell ⟨D, q, none⟩ (.bool true)) D 4 ((v.set q true).map Value.bool) := by
    rw [List.map_set]
    exact h.d.set q (.bool true)
  have hn1 : Has (wr.setCell ⟨D, q, none⟩ (.bool true)) N 40 nd := h.n.keeps (Keeps.set _ D q _) (by simpa using hDN.symm)
  have hb1 : Below w.heap.size w (wr.setCell ⟨D, q, none⟩ (.bool true)) := h.b.setCell (p := ⟨D, q, none⟩) h.db _
  have ho2 := ho1.alloc (.cells #[.int .i64 z] 3)
  have ka := Keeps.alloc [] (wr.setCell ⟨D, q, none⟩ (.bool true)) (.cells #[.int .i64 z] 3)
  have hd2 := hd1.keeps ka (by simp)
  have hn2 := hn1.keeps ka (by simp)
  have hb2 := hb1.alloc (by rw [hsz]; exact hBw) (.cells #[.int .i64 z] 3)
  have hc : ((wr.setCell ⟨D, q, none⟩ (.bool true)).alloc (.cells #[.int .i64 z] 3)).cell? ⟨wr.heap.size, 0, none⟩ = some (.int .i64 z) := by
    have := (Has.new (wr.setCell ⟨D, q, none⟩ (.bool true)) 3 [.int .i64 z]).cell 0
    rw [hsz] at this
    exact this
  obtain ⟨v2, W2, hrun, ho3, hg⟩ := app_int ty z ho2 hn (by simp [hsz]; omega) wr.heap.size 1 hc
  refine ⟨v2, W2, hrun, ?_, ?_, ?_, ho3, h.db⟩
  · exact hb2.grown hg (by simp [hsz]; omega) (fun g he => (own_lt ho2 g he).1)
  · exact hd2.keeps (Keeps.grown hg) (fun hm => (own_ne ho2 hd2 (by decide +kernel)) D (by simpa using hm) rfl)
  · exact hn2.keeps (Keeps.grown hg) (fun hm => (own_ne ho2 hn2 (by decide +kernel)) N (by simpa using hm) rfl)
theorem kinds_take {l : List Nd} {ks : List Int} {k : Nat} (hk : k < ks.length) : kindsOf l (ks.take (k + 1)) = kindsOf l (ks.take k) ++ [kindAt l ks[k]] := by
  unfold kindsOf
  rw [List.take_succ_eq_append_getElem hk, List.map_append]
  rfl
end TreeD
end Go.Proofs.YtmdkocegnbcgmaaGreatDoor
