/- The document's parser: a whole program. -/
import Derived.Test.YtmdkocegnbcgmaaGreatDoorZ33
import Derived.Test.YtmdkocegnbcgmaaGreatDoorZ21
import Derived.Test.YtmdkocegnbcgmaaGreatDoorZ42
namespace Go.Proofs.YtmdkocegnbcgmaaGreatDoor
open Go.RowKit ObjM RoundM
namespace ParD
open TreeD (Nd builtinV NdsAt NdOk deepV)
open LexD (Tok)

def okB (n : Nd) : Bool := decide (n.text.size ≤ 1000) && decide (n.kids.length ≤ 1000) && n.kids.all fun x => decide (0 ≤ x) && decide (x ≤ 1000)
theorem okB_ok {n : Nd} (h : okB n = true) : NdOk n := by
  unfold okB at h
  simp only [Bool.and_eq_true, decide_eq_true_eq, List.all_eq_true] at h
  exact ⟨by omega, by omega, fun x hx => by have := h.2 x hx; omega⟩
/-- A text's nodes (where this part of the language holds it). -/
def parseP (s : ByteArray) : Option (List Nd) :=
  if 90000 < s.size then none else
  match LexD.scanV s with
  | .ok ts =>
    if (ts ++ [LexD.endTok s]).all (fun t => decide (t.n ≤ 9223372036854775807)) = true then
      (progP (ts ++ [LexD.endTok s]) 40).bind fun l => if l.all okB = true ∧ deepV l ≤ 200 then some l else none
    else none
  | .error _ => none
theorem parse_some {s : ByteArray} {l : List Nd} (h : parseP s = some l) : s.size ≤ 90000 ∧ ∃ ts, LexD.scanV s = .ok ts ∧ (∀ t ∈ ts ++ [LexD.endTok s], t.n ≤ 9223372036854775807) ∧ progP (ts ++ [LexD.endTok s]) 40 = some l ∧ (∀ n ∈ l, NdOk n) ∧ deepV l ≤ 200 := by
  unfold parseP at h
  split at h
  · cases h
  · rename_i h0
    refine ⟨by omega, ?_⟩
    split at h
    · rename_i ts hts
      split at h
      · rename_i h1
        rw [Option.bind_eq_some_iff] at h
        obtain ⟨l', h2, h⟩ := h
        split at h
        · rename_i h3
          injection h with h
          subst h
          simp only [List.all_eq_true, decide_eq_true_eq] at h1 h3
          exact ⟨ts, hts, h1, h2, fun n hn => okB_ok (h3.1 n hn), h3.2⟩
        · cases h
      · cases h
    · cases h
theorem prog_some {T : List Tok} {m : Nat} {l : List Nd} (h : progP T m = some l) : isP T wChannel ⟨0, [], 0⟩ = false ∧ ∃ b s1 z s2, (ParD.F T m).block ⟨0, [], 0⟩ = some (b, s1) ∧ (cur T s1).kind = 0 ∧ nodeP 1 ⟨#[]⟩ 0 [b] s1 = some (z, s2) ∧ l = s2.l := by
  unfold progP at h
  split at h
  · cases h
  · rename_i h1
    rw [Option.bind_eq_some_iff] at h
    obtain ⟨⟨b, s1⟩, h2, h⟩ := h
    split at h
    · rename_i h3
      rw [Option.map_eq_some_iff] at h
      obtain ⟨⟨z, s2⟩, h4, h⟩ := h
      exact ⟨by simpa using h1, b, s1, z, s2, h2, h3, h4, h.symm⟩
    · cases h
theorem tab_lt {w : World} (h : NumD.Tab w) : 2 < w.heap.size := by
  unfold NumD.Tab Lib.TabIs World.var? at h
  rw [NumD.gPow] at h
  simp only [Option.bind_some] at h
  rcases Nat.lt_or_ge 2 w.heap.size with h' | h'
  · exact h'
  · rw [Array.getElem?_eq_none h'] at h
    cases h
/-- Nodes in memory, the kids' rows no longer than they may be. -/
def NdsCap (W : World) (v : Value) (l : List Nd) : Prop := NdsAt W v l ∧ ∀ b o n c0, v = .slice (some ⟨b, o, none⟩) n c0 → ∀ i, i < l.length → ∀ a m c, W.cell? ⟨b, o + i * 4 + 2, none⟩ = some (.slice a m c) → m ≤ c
theorem NdsCap.below {B : Nat} {w w' : World} {v : Value} {l : List Nd} (h : NdsCap w v l) (hB : w.heap.size ≤ B) (hb : Below B w w') : NdsCap w' v l := by
  refine ⟨h.1.below hB hb, ?_⟩
  intro b o n c0 he i hi a m c hc
  subst he
  obtain ⟨b2, o2, kv, e1, e2, -, -, g2, -⟩ := h.1.at i hi
  injection e1 with e1
  injection e1 with e3 e4
  subst e3 e4
  refine h.2 b o n c0 rfl i hi a m c ?_
  rw [← hc]
  exact (hb.cell (p := ⟨b, _, none⟩) (show b < B by omega)).symm
theorem PAt.nodes {W : World} {B P : Nat} {T : List Tok} {A : Nat → Prop} {tv : Value} {st : PS} (h : PAt W B P T A tv st) : ∃ la lc, W.cell? ⟨P, 2, none⟩ = some (.slice la st.l.length lc) ∧ NdsCap W (.slice la st.l.length lc) st.l := by
  obtain ⟨lv, nv, h1, h2, h3, h4⟩ := h.obj
  have hl : nv.length = st.l.length := by rw [← h2, List.length_map]
  rcases own_shape h3 with ⟨rfl, e2, -⟩ | ⟨g, cap, cs, rfl, hB, hh, hnc, hcm, hcl, htk⟩
  · have e3 : st.l = [] := List.length_eq_zero_iff.1 (by omega)
    rw [e3]
    exact ⟨none, 0, h1.cell 2, ⟨none, 0, rfl, .inl rfl⟩, fun b o n c0 e => by cases e⟩
  · rw [← hl]
    have hc : ∀ (i : Nat) (x : Nd × Value), nv[i]? = some x → ∀ j, j < 4 → W.cell? ⟨g, i * 4 + j, none⟩ = [Value.int .i64 x.1.kind, .string x.1.text, x.2, .int .i64 x.1.pos][j]? := by
      intro i x hx j hj
      have hi := (List.getElem?_eq_some_iff.1 hx).1
      have hlt : i * 4 + j < (rowN nv).length := by rw [rowN_len]; omega
      rw [own_cell h3 _ hlt, ← List.getElem?_eq_getElem hlt]
      have key : ∀ (nv : List (Nd × Value)) (i : Nat), nv[i]? = some x → (rowN nv)[i * 4 + j]? = [Value.int .i64 x.1.kind, .string x.1.text, x.2, .int .i64 x.1.pos][j]? := by
        intro nv
        induction nv with
        | nil => intro i h; simp at h
        | cons a r ih =>
          intro i h
          have e : rowN (a :: r) = [.int .i64 a.1.kind, .string a.1.text, a.2, .int .i64 a.1.pos] ++ rowN r := rfl
          rw [e]
          cases i with
          | zero =>
            simp at h
            subst h
            rw [List.getElem?_append_left (by simp; omega), Nat.zero_mul, Nat.zero_add]
          | succ i =>
            rw [List.getElem?_append_right (by simp; omega)]
            have e1 : (i + 1) * 4 + j - [Value.int .i64 a.1.kind, .string a.1.text, a.2, .int .i64 a.1.pos].length = i * 4 + j := by simp; omega
            rw [e1]
            exact ih i (by simpa using h)
      exact key nv i hx
    refine ⟨_, cap, h1.cell 2, ⟨_, cap, by rw [hl], .inr ⟨g, 0, rfl, hh.lt, fun i n hn => ?_⟩⟩, fun b o n c0 e i hi a m c hcc => ?_⟩
    · rw [← h2, List.getElem?_map, Option.map_eq_some_iff] at hn
      obtain ⟨x, hx, rfl⟩ := hn
      refine ⟨x.2, ?_, ?_, ?_, ?_, ?_⟩
      · rw [Nat.zero_add]; exact hc i x hx 0 (by omega)
      · rw [Nat.zero_add]; exact hc i x hx 1 (by omega)
      · rw [Nat.zero_add]; exact hc i x hx 2 (by omega)
      · rw [Nat.zero_add]; exact hc i x hx 3 (by omega)
      · exact kids_row ((h4 x (List.mem_of_getElem? hx)).1)
    · injection e with e
      injection e with e
      injection e with e1 e2
      subst e1 e2
      have hx := List.getElem?_eq_getElem (show i < nv.length by omega)
      have h9 := hc i _ hx 2 (by omega)
      rw [Nat.zero_add, h9] at hcc
      simp only [List.getElem?_cons_succ, List.getElem?_cons_zero, Option.some.injEq] at hcc
      have hr := (h4 _ (List.mem_of_getElem? hx)).1
      rw [hcc] at hr
      unfold Row at hr
      rcases own_shape hr with ⟨e, e2, -⟩ | ⟨g', cap', cs', e, -, -, q, -⟩
      · injection e with e3 e4 e5
        omega
      · injection e with e3 e4 e5
        omega
/-- What a parse leaves. -/
def ParsedIs (w : World) (l : List Nd) (e : Ending) (w' : World) : Prop := ∃ v, e = .returned (.tuple #[v, .int .i64 0, .int .i64 0]) ∧ NdsCap w' v l ∧ Below w.heap.size w w'
theorem parser_new {w1 : World} {T : List Tok} {b cap : Nat} (hT : NumD.Tab w1) (hl : 0 < T.length) (htl : T.length ≤ 100000) (hb : b < w1.heap.size) (ht : ∀ (i : Nat) t, T[i]? = some t → LexD.TkCells w1 b i t) (hn : ∀ t ∈ T, t.n ≤ 9223372036854775807) :
    PAt (w1.alloc (.cells #[.slice (some ⟨b, 0, none⟩) T.length cap, .int .i64 0, .slice none 0 0, .int .i64 0, .int .i64 0, .int .i64 0] 53)) w1.heap.size w1.heap.size T (fun _ => False) (.slice (some ⟨b, 0, none⟩) T.length cap) ⟨0, [], 0⟩ := by
  have hB : Below w1.heap.size w1 (w1.alloc (.cells #[.slice (some ⟨b, 0, none⟩) T.length cap, .int .i64 0, .slice none 0 0, .int .i64 0, .int .i64 0, .int .i64 0] 53)) := (Below.refl _ _).alloc (Nat.le_refl _) _
  refine ⟨hl, htl, ⟨b, cap, rfl, hb, fun i t hi => tk_below hb hB (ht i t hi)⟩, ⟨.slice none 0 0, [], Has.new w1 53 [_, _, _, _, _, _], rfl, World.ownsRow_nil _ _ _ _, by simp⟩, Nat.le_refl _, hB.size, by simp, by simp, tab_below hT (tab_lt hT) hB, tab_lt hT, hn, fun k hk => hk.elim⟩
set_option maxRecDepth 100000 in
set_option maxHeartbeats 16000000 in
theorem rparse_any (s : ByteArray) (l : List Nd) (w : World) (hT : NumD.Tab w) (hM : parseP s = some l) :
    Calls Tryz.prog 14 #[.string s] w (ParsedIs w l) := by
  obtain ⟨hs, ts, h1, hnb, h2, hok, hdp⟩ := parse_some hM
  obtain ⟨h3, bz, s1, z, s2, h4, h5, h6, rfl⟩ := prog_some h2
  have HSc := Lib.hid (LexD.refScan_any s w)
  obtain ⟨T, hTT⟩ : ∃ T, ts ++ [LexD.endTok s] = T := ⟨_, rfl⟩
  rw [hTT] at h3 h4 h5 hnb
  have hlT : T.length = ts.length + 1 := by rw [← hTT]; simp
  have hsl : ∀ v : Value, ∀ W : World, LexD.TksAt W v T → ∃ b cap, v = .slice (some ⟨b, 0, none⟩) T.length cap ∧ b < W.heap.size ∧ ∀ (i : Nat) t, T[i]? = some t → LexD.TkCells W b i t := by
    intro v W h
    rcases h with ⟨-, e⟩ | ⟨b, cap, e, -, -, hb, hc⟩
    · rw [e] at hlT
      simp at hlT
    · exact ⟨b, cap, e, hb, hc⟩
  have HAll := Lib.hid (all_do T 40)
  have HM := Lib.hid (⟨h3, h4, h5, h6, hnb, hok, hdp, hT, hs⟩ : _ ∧ _ ∧ _ ∧ _ ∧ _ ∧ _ ∧ _ ∧ _ ∧ _)
  have HlT := Lib.hid hlT
  have HSl := Lib.hid hsl
  have HTT := Lib.hid hTT
  have HS1 := Lib.hid h1
  clear h1 h2 h3 h4 h5 h6 hnb hok hdp hT hs hlT hsl hTT hM
  go_enter Tryz.func14, Tryz.ntmps14
  go_wp2_with fail
  refine (HSc.out).mono ?_
  intro e w1 hsc
  cases hsc with
  | long => exact absurd HM.out.2.2.2.2.2.2.2.2 (by omega)
  | err p er _ _ hz => rw [HS1.out] at hz; cases hz
  | ok ts' tv _ _ hz hlen hrow hb =>
    rw [HS1.out] at hz
    injection hz with hz
    subst hz
    rw [HTT.out] at hrow
    have htk := LexD.tks_of_own (HlT.out) (by rw [HlT.out] at *; exact hrow)
    obtain ⟨b, cap, rfl, hb1, hc⟩ := HSl.out tv w1 htk
    have hp := parser_new (cap := cap) (NumD.Tab.below HM.out.2.2.2.2.2.2.2.1 hb) (by rw [HlT.out]; omega) (by rw [HlT.out]; have := HM.out.2.2.2.2.2.2.2.2; omega) hb1 hc HM.out.2.2.2.2.1
    have HX : Hid (PAt (w1.alloc (.cells #[.slice (some ⟨b, 0, none⟩) T.length cap, .int .i64 0, .slice none 0 0, .int .i64 0, .int .i64 0, .int .i64 0] 53)) w1.heap.size w1.heap.size T (fun _ => False) (.slice (some ⟨b, 0, none⟩) T.length cap) ⟨0, [], 0⟩ ∧ Below w.heap.size w (w1.alloc (.cells #[.slice (some ⟨b, 0, none⟩) T.length cap, .int .i64 0, .slice none 0 0, .int .i64 0, .int .i64 0, .int .i64 0] 53)) ∧ w.heap.size ≤ w1.heap.size ∧ w1.heap.size ≤ (w1.alloc (.cells #[.slice (some ⟨b, 0, none⟩) T.length cap, .int .i64 0, .slice none 0 0, .int .i64 0, .int .i64 0, .int .i64 0] 53)).heap.size) := Lib.hid ⟨hp, hb.alloc hb.size _, hb.size, by simp⟩
    clear hrow htk hc hp hb hb1 HSl HTT HS1 HSc hlen
    go_wp2_with fail
    generalize w1.alloc (.cells #[.slice (some ⟨b, 0, none⟩) T.length cap, .int .i64 0, .slice none 0 0, .int .i64 0, .int .i64 0, .int .i64 0] 53) = W2 at HX ⊢
    generalize w1.heap.size = P at HX ⊢
    go_loopw [9] (fun s9 wl => s9 = .slice none 0 0 ∧ W2 = wl) (fun _ _ => 0)
    case atStart => exact ⟨rfl, rfl⟩
    case round =>
      obtain ⟨rfl, rfl⟩ := hrel
      have hIs := is_any P P T _ _ ⟨0, [], 0⟩ wChannel _ HX.out.1
      rw [HM.out.1] at hIs
      have HIs := Lib.hid hIs
      unfold wChannel at HIs
      have HBl := Lib.hid (fun W A (hp : PAt W P P T A (.slice (some ⟨b, 0, none⟩) T.length cap) ⟨0, [], 0⟩) => HAll.out.block P P A _ ⟨0, [], 0⟩ s1 bz W hp HM.out.2.1)
      have HNd := Lib.hid (fun W A kv (hp : PAt W P P T A (.slice (some ⟨b, 0, none⟩) T.length cap) s1) (hk : TreeD.KidsAt W kv [bz]) => node_any P P T A _ s1 s2 1 ⟨#[]⟩ 0 kv [bz] z W hp hk (by simp) HM.out.2.2.2.1)
      obtain ⟨b2, cap2, la, ln, lc, -, -, -, -, -, -, -, c5, -, lp2, -⟩ := HX.out.1.reads
      clear hIs
      go_wp2_with fail
      refine (HIs.out).mono ?_
      rintro e w3 ⟨rfl, m, hm⟩
      have X3 := Lib.hid (⟨HX.out.1.drewN m, (Fr.refl P W2).drewN m, HX.out.2⟩ : _ ∧ _ ∧ _)
      rw [← hm] at X3
      clear hm HIs HX c5 lp2
      go_wp2_with fail
      refine (HBl.out _ _ X3.out.1).mono ?_
      rintro e w4 ⟨rfl, g1, g2⟩
      obtain ⟨v5, w5, hrun, p1, p2, p3⟩ := (g1.with_nil).push (X3.out.2.1.trans g2) rfl X3.out.2.2.2.2 (Row.nil _ _) (by simp) bz
      have HRun := Lib.hid hrun
      obtain ⟨b2, cap2, la, ln, lc, e2, -, c0, c1, c2, c3, c4, c5, f, lp, t0, t1, t2, t3, t4, lb, ne, li, l0, ls⟩ := p1.reads
      injection e2 with e2 e3 e4
      injection e2 with e2
      injection e2 with e2
      subst e2 e4
      have X5 := Lib.hid (⟨fun n => p1.drewN n, fun n => p2.drewN n, fun n => kids_row (p3.fr ((Fr.refl P _).drewN n)), X3.out.2.2⟩ : (∀ n, PAt (w5.drewN n) P P T _ _ s1) ∧ (∀ n, Fr P W2 (w5.drewN n)) ∧ (∀ n, TreeD.KidsAt (w5.drewN n) v5 [bz]) ∧ _)
      rw [HM.out.2.2.1] at t0
      generalize cur T s1 = t at t1 t2 t3 t4
      generalize s1.i = i at c1 t0 t1 t2 t3 t4 li l0 ls
      clear g1 g2 hrun p1 p2 p3 X3 HBl c2 c3 c4 f t1 t2 t3 t4
      go_wp2_with (at_builtin; refine wpList_append_run (by rfl) (.tmp 37) (.tmp 40) 31 rfl _ _ _ _ rfl rfl HRun.out ?_)
      go_quiet (fail)
      clear HRun c0 c1 t0
      go_wp2_with fail
      refine (HNd.out _ _ _ (X5.out.1 _) (X5.out.2.2.1 _)).mono ?_
      rintro e w6 ⟨rfl, g1, g2⟩
      obtain ⟨la, lc, cc, hnd⟩ := g1.nodes
      have hll := g1.ll
      obtain ⟨b3, cap3, la3, ln3, lc3, -, -, -, -, -, -, -, c5, -, lp3, -⟩ := g1.reads
      have HV : Hid (NdsCap w6 (.slice la s2.l.length lc) s2.l ∧ Below w.heap.size w w6) := Lib.hid ⟨hnd, X5.out.2.2.2.1.trans (((X5.out.2.1 _).trans g2).b.mono X5.out.2.2.2.2.1)⟩
      have HDp := Lib.hid (TreeD.refDeep_any s2.l _ w6 hnd.1 HM.out.2.2.2.2.2.1 (by omega))
      have HFin : Hid (∀ w7, Below w6.heap.size w6 w7 → NdsCap w7 (.slice la s2.l.length lc) s2.l ∧ Below w.heap.size w w7 ∧ w7.cell? ⟨P, 2, none⟩ = some (.slice la s2.l.length lc) ∧ P < w7.heap.size) := Lib.hid fun w7 h7 => ⟨hnd.below (Nat.le_refl _) h7, HV.out.2.trans (h7.mono HV.out.2.size), (h7.cell (p := ⟨P, 2, none⟩) lp3).trans cc, Nat.lt_of_lt_of_le lp3 h7.size⟩
      have hd := HM.out.2.2.2.2.2.2.1
      have hdi : ¬ (200 : Int) < deepV s2.l := by omega
      generalize deepV s2.l = dv at HDp hdi
      have hli : ¬ (50000 : Int) < (s2.l.length : Int) := by omega
      clear g1 g2 hnd X5 HNd hll hd
      generalize s2.l.length = nl at hli cc HV HDp HFin
      go_wp2_with fail
      refine (HDp.out).mono ?_
      rintro e w7 ⟨rfl, h7⟩
      obtain ⟨q1, q2, q3, q4⟩ := HFin.out w7 h7
      have HE := Lib.hid (⟨q1, q2⟩ : _ ∧ _)
      clear h7 q1 q2 HFin HV
      go_wp2_with fail
      go_ret3
      exact ⟨_, rfl, HE.out.1, HE.out.2⟩
end ParD
end Go.Proofs.YtmdkocegnbcgmaaGreatDoor
