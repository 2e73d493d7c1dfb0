/- The document's search: what is come to. -/
import Derived.Test.YtajhkogknpmnbaaDoorFlowN
import Derived.Deep.LoopGhost
namespace Go.Proofs.YtajhkogknpmnbaaDoor
open Go.RowKit ObjM
namespace FlowD
open FlowM

def ComeS (start : List Int) (next : Nat → List Int) (sh : Int) (x : Nat) : Prop := Come (start.map toO) (nxO next) (fun x => decide ((x : Int) = sh)) x
def SrcS (start : List Int) (next : Nat → List Int) (sh : Int) (z : Int) : Prop := z ∈ start ∨ ∃ y, ComeS start next sh y ∧ z ∈ next y
def DoneS (m : Nat) (sh : Int) (bs : Nat → Bool) (be : Bool) (z : Int) : Prop := z = sh ∨ (z = -1 ∧ be = true) ∨ ∃ x : Nat, z = (x : Int) ∧ x < m ∧ bs x = true
/-- How far the search has come. -/
structure RchP (start : List Int) (next : Nat → List Int) (m : Nat) (sh : Int) (bs : Nat → Bool) (be : Bool) (todo : List Int) : Prop where
  src : ∀ z ∈ todo, SrcS start next sh z
  com : ∀ x, x < m → bs x = true → ComeS start next sh x
  en : be = true → SrcS start next sh (-1)
  st : ∀ z ∈ start, DoneS m sh bs be z ∨ z ∈ todo
  nx : ∀ x, x < m → bs x = true → ∀ z ∈ next x, DoneS m sh bs be z ∨ z ∈ todo
variable {start : List Int} {next : Nat → List Int} {m : Nat} {sh : Int} {bs : Nat → Bool} {be : Bool} {todo : List Int}
theorem rch_start : RchP start next m sh (fun _ => false) false start := ⟨fun z hz => .inl hz, fun _ _ h => (by cases h), fun h => (by cases h), fun z hz => .inr hz, fun _ _ h => (by cases h)⟩
theorem RchP.drop {z : Int} (h : RchP start next m sh bs be (todo ++ [z])) (hd : DoneS m sh bs be z) : RchP start next m sh bs be todo := by
  have key : ∀ y, DoneS m sh bs be y ∨ y ∈ todo ++ [z] → DoneS m sh bs be y ∨ y ∈ todo := by
    intro y hy
    rcases hy with h1 | h1
    · exact .inl h1
    · rcases List.mem_append.1 h1 with h2 | h2
      · exact .inr h2
      · simp at h2
        exact .inl (h2 ▸ hd)
  exact ⟨fun y hy => h.src y (List.mem_append_left _ hy), h.com, h.en, fun y hy => key y (h.st y hy), fun x hx hb y hy => key y (h.nx x hx hb y hy)⟩
theorem RchP.ends (h : RchP start next m sh bs be (todo ++ [-1])) : RchP start next m sh bs true todo := by
  have mono : ∀ y, DoneS m sh bs be y → DoneS m sh bs true y := by
    rintro y (h1 | ⟨h1, _⟩ | h1)
    · exact .inl h1
    · exact .inr (.inl ⟨h1, rfl⟩)
    · exact .inr (.inr h1)
  have key : ∀ y, DoneS m sh bs be y ∨ y ∈ todo ++ [-1] → DoneS m sh bs true y ∨ y ∈ todo := by
    intro y hy
    rcases hy with h1 | h1
    · exact .inl (mono y h1)
    · rcases List.mem_append.1 h1 with h2 | h2
      · exact .inr h2
      · simp at h2
        exact .inl (.inr (.inl ⟨h2, rfl⟩))
  exact ⟨fun y hy => h.src y (List.mem_append_left _ hy), h.com, fun _ => h.src _ (by simp), fun y hy => key y (h.st y hy), fun x hx hb y hy => key y (h.nx x hx hb y hy)⟩
def updB (bs : Nat → Bool) (n : Nat) : Nat → Bool := fun k => if k = n then true else bs k
theorem RchP.more {n : Nat} (h : RchP start next m sh bs be (todo ++ [(n : Int)])) (hn : n < m) (hsh : (n : Int) ≠ sh) (hr : ∀ z ∈ start, z = -1 ∨ 0 ≤ z) (hr2 : ∀ k, ∀ z ∈ next k, z = -1 ∨ 0 ≤ z) : RchP start next m sh (updB bs n) be (todo ++ next n) := by
  have hcome : ComeS start next sh n := by
    rcases h.src _ (List.mem_append_right _ (List.mem_singleton.2 rfl)) with h1 | ⟨y, h1, h2⟩
    · exact .first (List.mem_map.2 ⟨_, h1, (toO_some (hr _ h1)).2 rfl⟩) (decide_eq_false hsh)
    · exact .then h1 (List.mem_map.2 ⟨_, h2, (toO_some (hr2 _ _ h2)).2 rfl⟩) (decide_eq_false hsh)
  have mono : ∀ y, DoneS m sh bs be y → DoneS m sh (updB bs n) be y := by
    rintro y (h1 | h1 | ⟨x, h1, h2, h3⟩)
    · exact .inl h1
    · exact .inr (.inl h1)
    · refine .inr (.inr ⟨x, h1, h2, ?_⟩)
      unfold updB
      split
      · rfl
      · exact h3
  have hdn : DoneS m sh (updB bs n) be (n : Int) := .inr (.inr ⟨n, rfl, hn, by simp [updB]⟩)
  have key : ∀ y, DoneS m sh bs be y ∨ y ∈ todo ++ [(n : Int)] → DoneS m sh (updB bs n) be y ∨ y ∈ todo ++ next n := by
    intro y hy
    rcases hy with h1 | h1
    · exact .inl (mono y h1)
    · rcases List.mem_append.1 h1 with h2 | h2
      · exact .inr (List.mem_append_left _ h2)
      · simp at h2
        exact .inl (h2 ▸ hdn)
  refine ⟨?_, ?_, h.en, fun y hy => key y (h.st y hy), ?_⟩
  · intro y hy
    rcases List.mem_append.1 hy with h1 | h1
    · exact h.src y (List.mem_append_left _ h1)
    · exact .inr ⟨n, hcome, h1⟩
  · intro x hx hb
    by_cases e : x = n
    · subst e
      exact hcome
    · exact h.com x hx (by simpa [updB, e] using hb)
  · intro x hx hb y hy
    by_cases e : x = n
    · subst e
      exact .inr (List.mem_append_right _ hy)
    · exact key y (h.nx x hx (by simpa [updB, e] using hb) y hy)
theorem RchP.all (h : RchP start next m sh bs be []) (hr : ∀ z ∈ start, z = -1 ∨ 0 ≤ z ∧ z < m) (hr2 : ∀ k, ∀ z ∈ next k, z = -1 ∨ 0 ≤ z ∧ z < m) (hsh : sh ≠ -1) : (∀ x, x < m → (bs x = true ↔ ComeS start next sh x)) ∧ (be = true ↔ SrcS start next sh (-1)) ∧ ∀ x, ComeS start next sh x → x < m := by
  have done : ∀ y : Nat, DoneS m sh bs be (y : Int) → (y : Int) = sh ∨ y < m ∧ bs y = true := by
    rintro y (h1 | ⟨h1, _⟩ | ⟨x, h1, h2, h3⟩)
    · exact .inl h1
    · omega
    · have : y = x := by omega
      subst this
      exact .inr ⟨h2, h3⟩
  have toZ : ∀ {zs : List Int}, (∀ z ∈ zs, z = -1 ∨ 0 ≤ z ∧ z < m) → ∀ x : Nat, some x ∈ zs.map toO → (x : Int) ∈ zs := by
    intro zs hz x hx
    obtain ⟨z, h1, h2⟩ := List.mem_map.1 hx
    rw [toO_some ((hz z h1).imp id (·.1))] at h2
    exact h2 ▸ h1
  have key : ∀ x, ComeS start next sh x → x ∈ (List.range m).filter bs := by
    intro x hx
    refine come_all (start := start.map toO) (next := nxO next) (shut := fun x => decide ((x : Int) = sh)) (found := (List.range m).filter bs) ?_ ?_ hx
    · intro y hy hs
      have h1 := h.st _ (toZ hr y hy)
      rcases h1 with h1 | h1
      · rcases done y h1 with h2 | ⟨h2, h3⟩
        · exact absurd h2 (of_decide_eq_false hs)
        · exact List.mem_filter.2 ⟨List.mem_range.2 h2, h3⟩
      · cases h1
    · intro k hk y hy hs
      obtain ⟨hk1, hk2⟩ := List.mem_filter.1 hk
      have h1 := h.nx k (List.mem_range.1 hk1) hk2 _ (toZ (hr2 k) y hy)
      rcases h1 with h1 | h1
      · rcases done y h1 with h2 | ⟨h2, h3⟩
        · exact absurd h2 (of_decide_eq_false hs)
        · exact List.mem_filter.2 ⟨List.mem_range.2 h2, h3⟩
      · cases h1
  refine ⟨fun x hx => ⟨h.com x hx, fun hc => (List.mem_filter.1 (key x hc)).2⟩, ⟨h.en, fun hs => ?_⟩, fun x hx => List.mem_range.1 (List.mem_filter.1 (key x hx)).1⟩
  have h1 : DoneS m sh bs be (-1) := by
    rcases hs with h1 | ⟨y, h1, h2⟩
    · rcases h.st _ h1 with h2 | h2
      · exact h2
      · cases h2
    · have hy := List.mem_filter.1 (key y h1)
      rcases h.nx y (List.mem_range.1 hy.1) hy.2 _ h2 with h3 | h3
      · exact h3
      · cases h3
  rcases h1 with h1 | ⟨_, h1⟩ | ⟨x, h1, _⟩
  · exact absurd h1.symm hsh
  · exact h1
  · omega
def falses (m : Nat) (bs : Nat → Bool) : Nat := (List.range m).countP fun x => !bs x
theorem falses_less {n : Nat} (hn : n < m) (hb : bs n = false) : falses m (updB bs n) + 1 = falses m bs := by
  have h := count_but (g := fun x => !bs x) (n := n) (l := List.range m) List.nodup_range (List.mem_range.2 hn) (by simp [hb])
  unfold falses
  rw [h]
  congr 1
  apply List.countP_congr
  intro x _
  unfold updB
  by_cases e : x = n
  · simp [e]
  · simp [e]
theorem falses_le : falses m bs ≤ m := by
  have := List.countP_le_length (p := fun x => !bs x) (l := List.range m)
  simpa [falses] using this
set_option maxRecDepth 100000 in
/-- Numbers are put behind a row of numbers. -/
theorem app_ints (ty : TypeId) {W : World} {B : Nat} {v : Value} {zs : List Int} (h : W.ownsRow B 3 1 v zs.length (zs.map (Value.int .i64))) (hn : zs.length ≤ 1000000) (hB : B ≤ W.heap.size) {F c0 : Nat} {news : List Int} (hF : RowAt W F news) (hl : news.length ≤ 1000000) :
    ∃ v2 W2, (Builtin.append_ #[26, 26] ty #[v, .slice (some ⟨F, 0, none⟩) news.length c0]).run Tryd.prog W = .ok v2 W2 ∧ W2.ownsRow B 3 1 v2 (zs ++ news).length ((zs ++ news).map (Value.int .i64)) ∧ W.grownBy W2 v.ownBlock ∧ (v2.ownBlock = v.ownBlock ∨ ∃ g, v2.ownBlock = some g ∧ W.heap.size ≤ g) := by
  obtain ⟨i0, hi, hz0, hz1, hz2⟩ := info_fl
  obtain ⟨v2, w5, hrun, ho, hk5, -, hv5⟩ := run_append_own_at (P := Tryd.prog) (w := W) B 26 ty 3 i0 (.int .i64 0) 1 8 Tryd.underlying26 hi hz0 hz1 hz2 rfl (by decide) v _ _ h ⟨F, 0, none⟩ news.length c0 (news.map (Value.int .i64)) (by simp)
    (fun k u hk => by
      rw [List.getElem?_map] at hk
      obtain ⟨y, hy, rfl⟩ := Option.map_eq_some_iff.1 hk
      have hk1 := (List.getElem?_eq_some_iff.1 hy)
      obtain ⟨hk2, hk3⟩ := hk1
      rw [fl_at, hF.cell hk2, hk3])
    (fun u hu => by
      obtain ⟨y, _, rfl⟩ := List.mem_map.1 hu
      rfl) (by unfold maxLen; omega) (by omega) hB
  exact ⟨v2, w5, hrun, by simpa using ho, hk5, hv5.imp id (fun e => ⟨_, e, Nat.le_refl _⟩)⟩
end FlowD
end Go.Proofs.YtajhkogknpmnbaaDoor
namespace Go.Proofs.YtajhkogknpmnbaaDoor
open Go.RowKit ObjM
namespace FlowD
open FlowM InstrM InstrD

def outC (m : Nat) (bs : Nat → Bool) (be : Bool) : List Value := (List.range m).map (fun x => Value.bool (bs x)) ++ [.bool be]
theorem out_get {m x : Nat} {bs : Nat → Bool} {be : Bool} (h : x < m) : (outC m bs be)[x]? = some (.bool (bs x)) := by
  unfold outC
  rw [List.getElem?_append_left (by simpa using h), List.getElem?_map, List.getElem?_range h]
  rfl
theorem out_end {m : Nat} {bs : Nat → Bool} {be : Bool} : (outC m bs be)[m]? = some (.bool be) := by
  unfold outC
  rw [List.getElem?_append_right (by simp)]
  simp
theorem out_set {m n : Nat} {bs : Nat → Bool} {be : Bool} (h : n < m) : (outC m bs be).set n (.bool true) = outC m (updB bs n) be := by
  unfold outC
  rw [List.set_append_left _ _ (by simpa using h)]
  congr 1
  apply List.ext_getElem?
  intro i
  rw [List.getElem?_set]
  by_cases hi : i < m
  · rw [List.getElem?_map, List.getElem?_map, List.getElem?_range hi]
    by_cases e : n = i
    · subst e
      simp [updB, h]
    · have e2 : ¬ i = n := fun h => e h.symm
      simp [updB, e, e2]
  · rw [List.getElem?_eq_none (by simp; omega), List.getElem?_eq_none (by simp; omega), if_neg (by omega)]
theorem out_set_end {m : Nat} {bs : Nat → Bool} {be : Bool} : (outC m bs be).set m (.bool true) = outC m bs true := by
  unfold outC
  rw [List.set_append_right _ _ (by simp)]
  simp
theorem out_start (m : Nat) : outC m (fun _ => false) false = List.replicate (m + 1) (.bool false) := by
  unfold outC
  rw [List.replicate_succ']
  congr 1
  apply List.ext_getElem?
  intro i
  rw [List.getElem?_map, List.getElem?_replicate]
  by_cases hi : i < m
  · rw [List.getElem?_range hi, if_pos hi]
    rfl
  · rw [List.getElem?_eq_none (by simp; omega), if_neg hi]
    rfl
theorem infoBool : (Tryd.prog.info? 4).map (fun i => (i.zero, i.size, i.bytes)) = some (some (.bool false), 1, 1) := by kernel_rfl
theorem info_bool : ∃ i, Tryd.prog.info? 4 = some i ∧ i.zero = some (.bool false) ∧ i.size = 1 ∧ i.bytes = 1 := by
  have h := infoBool
  rcases e : Tryd.prog.info? 4 with _ | i
  · rw [e] at h
    cases h
  · rw [e] at h
    simp at h
    exact ⟨i, rfl, h.1, h.2.1, h.2.2⟩
/-- What stands in memory while it is searched. -/
structure RchS (W1 wr : World) (B O m : Nat) (v : Value) (bs : Nat → Bool) (be : Bool) (todo : List Int) : Prop where
  o : Has wr O 4 (outC m bs be)
  t : wr.ownsRow B 3 1 v todo.length (todo.map (Value.int .i64))
  b : Below B W1 wr
  bo : B ≤ O
theorem RchS.put {W1 wr : World} {B O m : Nat} {v : Value} {bs bs' : Nat → Bool} {be be' : Bool} {todo : List Int} (h : RchS W1 wr B O m v bs be todo) {n : Nat} (he : (outC m bs be).set n (.bool true) = outC m bs' be') : RchS W1 (wr.setCell ⟨O, n, none⟩ (.bool true)) B O m v bs' be' todo :=
  ⟨by rw [← he]; exact h.o.set n _, own_keeps h.t (Keeps.set _ _ _ _) (fun g hg => by simpa using own_ne h.t h.o (by decide) g hg), h.b.setCell (p := ⟨O, n, none⟩) h.bo _, h.bo⟩
theorem RchS.pop {W1 wr : World} {B O m g cap q : Nat} {bs : Nat → Bool} {be : Bool} {r : List Int} {z : Int} (h : RchS W1 wr B O m (.slice (some ⟨g, 0, none⟩) (q + 1) cap) bs be (r ++ [z])) (hq : r.length = q) : RchS W1 wr B O m (.slice (some ⟨g, 0, none⟩) q cap) bs be r := by
  have h1 := h.t
  have e : (r ++ [z]).length = q + 1 := by simp [hq]
  rw [e] at h1
  have h2 := own_take h1 (Nat.le_succ q)
  rw [Nat.mul_one, ← List.map_take] at h2
  have e2 : (r ++ [z]).take q = r := by rw [← hq]; simp
  rw [e2] at h2
  exact ⟨h.o, by rw [hq]; exact h2, h.b, h.bo⟩
theorem RchS.more {W1 wr w2 : World} {B O m F c0 : Nat} {v : Value} {bs : Nat → Bool} {be : Bool} {todo news : List Int} (h : RchS W1 wr B O m v bs be todo) (hb2 : Below wr.heap.size wr w2) (hB : B ≤ wr.heap.size) (hn : todo.length ≤ 1000000) (hF : RowAt w2 F news) (hl : news.length ≤ 1000000) (ty : TypeId) :
    ∃ v2 W2, (Builtin.append_ #[26, 26] ty #[v, .slice (some ⟨F, 0, none⟩) news.length c0]).run Tryd.prog w2 = .ok v2 W2 ∧ Hid (RchS W1 W2 B O m v2 bs be (todo ++ news)) := by
  have k := Keeps.below' hb2 []
  have ht := own_keeps h.t k (fun g hg => by simp)
  have ho := h.o.below hb2 h.o.lt
  obtain ⟨v2, W2, hrun, hown, hg, hv⟩ := app_ints ty ht hn (Nat.le_trans hB hb2.size) (c0 := c0) hF hl
  have kg := Keeps.grown hg
  refine ⟨v2, W2, hrun, Lib.hid ⟨ho.keeps kg (fun hm => own_ne ht ho (by decide) _ (by simpa using hm) rfl), hown, ?_, h.bo⟩⟩
  exact (h.b.trans (hb2.mono hB)).grown hg (Nat.le_trans hB hb2.size) (fun g hg' => (own_lt ht g hg').1)
/-- How the search stands: so much is to be done at most. -/
def RchH (W1 wr : World) (B O m : Nat) (start : List Int) (next : Nat → List Int) (sh : Int) (k : Nat) (v : Value) : Prop := ∃ bs be todo, RchP start next m sh bs be todo ∧ 3 * falses m bs + todo.length ≤ k ∧ RchS W1 wr B O m v bs be todo
/-- What the search hands back. -/
def ReachIs (w : World) (start : List Int) (next : Nat → List Int) (m : Nat) (sh : Int) (e : Ending) (w' : World) : Prop :=
  ∃ (O : Nat) (bs : Nat → Bool) (be : Bool), e = .returned (.slice (some ⟨O, 0, none⟩) (m + 1) (m + 1)) ∧ w.heap.size ≤ O ∧ Has w' O 4 (outC m bs be) ∧ (∀ x, x < m → (bs x = true ↔ ComeS start next sh x)) ∧ (be = true ↔ SrcS start next sh (-1)) ∧ (∀ x, ComeS start next sh x → x < m) ∧ Below w.heap.size w w'
set_option maxRecDepth 100000 in
set_option maxHeartbeats 16000000 in
theorem reach_any (p : PrV) (ws : List Nat) (start : List Int) (sh : Int) (F c : Nat) (w : World) (hw : WordsAt w p ws) (h64 : ws.length ≤ 64) (hF : RowAt w F start) (hs : 1 ≤ start.length ∧ start.length ≤ 1000) (hr : ∀ z ∈ start, z = -1 ∨ 0 ≤ z ∧ z < ws.length) (hsh : sh ≠ -1) :
    Calls Tryd.prog 34 #[p.agg, .slice (some ⟨F, 0, none⟩) start.length c, .int .i64 sh] w (ReachIs w start (nextW ws) ws.length sh) := by
  obtain ⟨a0, n0, c0, rg, wa, wn, wc, a3, n3, c3, a4, n4, c4, a5, n5, c5⟩ := p
  obtain rfl : wn = ws.length := hw.len
  obtain ⟨hx, hb⟩ := pr_box w ⟨a0, n0, c0, rg, wa, ws.length, wc, a3, n3, c3, a4, n4, c4, a5, n5, c5⟩
  simp only [PrV.cells] at hx hb
  obtain ⟨i0, hi, hz0, hz1, hz2⟩ := info_bool
  have HNe := Lib.hid (fun (n : Nat) (W : World) (hn : n ≤ 1000000) (hW : Below w.heap.size w W) => refNext_any ⟨a0, n0, c0, rg, wa, ws.length, wc, a3, n3, c3, a4, n4, c4, a5, n5, c5⟩ ws (n : Int) W (hw.below hW) (by omega))
  simp only [PrV.agg] at HNe
  have HNX := Lib.hid (nx_of ws)
  have HNn := Lib.hid (fun (n : Nat) (h : n < ws.length) => nextV_ne h)
  obtain ⟨m, hm⟩ : ∃ m, ws.length = m := ⟨_, rfl⟩
  unfold PrV.agg
  simp only
  rw [hm] at h64 HNX HNn hx hb HNe hr ⊢
  obtain ⟨w1, hw1⟩ : ∃ w1, w.alloc (.cells #[.slice a0 n0 c0, .int .i64 rg, .slice wa m wc, .slice a3 n3 c3, .slice a4 n4 c4, .slice a5 n5 c5] 28) = w1 := ⟨_, rfl⟩
  have hsz1 : w1.heap.size = w.heap.size + 1 := by rw [← hw1]; simp
  rw [hw1] at hx hb
  have HX : Hid (∀ W, Below (w.heap.size + 1) w1 W → (W.cell? ⟨w.heap.size, 0, none⟩ = some (.slice a0 n0 c0) ∧ W.cell? ⟨w.heap.size, 1, none⟩ = some (.int .i64 rg) ∧ W.cell? ⟨w.heap.size, 2, none⟩ = some (.slice wa m wc) ∧ W.cell? ⟨w.heap.size, 3, none⟩ = some (.slice a3 n3 c3) ∧ W.cell? ⟨w.heap.size, 4, none⟩ = some (.slice a4 n4 c4) ∧ W.cell? ⟨w.heap.size, 5, none⟩ = some (.slice a5 n5 c5)) ∧ w.heap.size < W.heap.size ∧ Below w.heap.size w W) := Lib.hid (fun W hW => by
    have g := hx.below hW (by omega)
    exact ⟨⟨g.cell 0, g.cell 1, g.cell 2, g.cell 3, g.cell 4, g.cell 5⟩, g.lt, hb.trans (hW.mono (by omega))⟩)
  have HF := Lib.hid (hF.below hb hF.lt)
  obtain ⟨⟨x0, x1, x2, x3, x4, x5⟩, lx, -⟩ := HX.out _ (Below.refl _ w1)
  have hwm : IntKind.i64.wrap ((m : Int) + 1) = ((m + 1 : Nat) : Int) := IntWalk.i64_in _ (by omega)
  have HW1 := Lib.hid hw1
  have HSt := Lib.hid hs
  have HR := Lib.hid hr
  have HM := Lib.hid hm
  rw [← hw1] at x0 x1 x2 x3 x4 x5 lx
  clear hx hb hw hm hF hw1 hs hr
  go_enter Tryd.func34, Tryd.ntmps34
  go_wp2_with (at_make; refine wpList_make_full _ rfl _ _ 35 rfl (w.heap.size + 1) 4 i0 (.bool false) 1 Tryd.underlying35 hi hz0 hz1 .i64 .i64 ((m + 1 : Nat) : Int) ((m + 1 : Nat) : Int) (m + 1) rfl rfl rfl rfl ?c1 ?c2 ?c3 ?_)
  case c1 => rw [hz2]; omega
  case c2 => unfold maxLen; omega
  case c3 => simp
  intro w2 hrow hgrow
  have HSz : Hid ((w.alloc (.cells #[.slice a0 n0 c0, .int .i64 rg, .slice wa m wc, .slice a3 n3 c3, .slice a4 n4 c4, .slice a5 n5 c5] 28)).heap.size = w.heap.size + 1) := Lib.hid (by simp)
  have hh := made_has hrow
  rw [HW1.out] at hgrow
  have hb2 : Below (w.heap.size + 1) w1 w2 := (Below.refl _ w1).grown hgrow (by omega) (fun k hk => by cases hk)
  have HO : Hid (Has w2 (w.heap.size + 1) 4 (outC m (fun _ => false) false) ∧ Below (w.heap.size + 1) w1 w2) := Lib.hid ⟨by rw [out_start]; exact hh, hb2⟩
  obtain ⟨⟨y0, y1, y2, y3, y4, y5⟩, ly, -⟩ := HX.out _ hb2
  have hszw2 : w.heap.size + 1 ≤ w2.heap.size := Nat.le_trans (by omega) hb2.size
  obtain ⟨v3, w3, hrun3, HS3⟩ := RchS.more (W1 := w1) (wr := w2) (w2 := w2) (B := w.heap.size + 1) (O := w.heap.size + 1) (m := m) (F := F) (c0 := c) (v := .slice none 0 0) (bs := fun _ => false) (be := false) (todo := []) (news := start) ⟨HO.out.1, World.ownsRow_nil _ _ _ _, HO.out.2, Nat.le_refl _⟩ (Below.refl _ w2) hszw2 (by simp) (HF.out.below (Keeps.below hb2 [] (fun k h1 h2 => by omega) |> fun _ => hb2) (by have := HF.out.lt; omega)) (by have := HSt.out.2; omega) 26
  have HRun3 := Lib.hid hrun3
  have HP0 : Hid (RchH w1 w3 (w.heap.size + 1) (w.heap.size + 1) m start (nextW ws) sh (3 * m + start.length) v3) := Lib.hid ⟨_, _, _, rch_start, by have := falses_le (m := m) (bs := fun _ => false); simp; omega, HS3.out⟩
  clear hrow hgrow hh hb2 hi hz0 hz1 hz2 x0 x1 x2 x3 x4 x5 lx hwm HO hrun3 HS3 hsz1 HSz
  go_wp2_with (at_builtin; refine wpList_append_run (by rfl) (.const (.slice none 0 0)) (.tmp 15) 26 rfl _ _ _ _ rfl rfl HRun3.out ?_)
  have hk0 : 3 * m + start.length ≤ 2000 := by have := HSt.out.2; omega
  have HNX2 := Lib.hid (fun k z (h : z ∈ nextW ws k) => HNX.out.r k z h)
  obtain ⟨K0, hK0⟩ : ∃ K0, 3 * m + start.length = K0 := ⟨_, rfl⟩
  rw [hK0] at HP0 hk0
  clear hK0 HRun3 y0 y1 y2 y3 y4 y5 ly
  go_wp2
  go_loopg [8] K0 (fun k sv wr => ∃ tv, tv = sv ∧ k ≤ 2000 ∧ Hid (RchH w1 wr (w.heap.size + 1) (w.heap.size + 1) m start (nextW ws) sh k tv))
  case atStart => exact ⟨_, rfl, hk0, HP0⟩
  case round =>
    obtain ⟨tv, rfl, hk, HS⟩ := hrel
    clear HP0
    obtain ⟨bs, be, todo, h1, h2, h3⟩ := HS.out
    obtain ⟨⟨x0, x1, x2, x3, x4, x5⟩, lx, hWb⟩ := HX.out _ h3.b
    rcases (show todo = [] ∨ ∃ r z, todo = r ++ [z] by rcases List.eq_nil_or_concat todo with h | ⟨r, z, h⟩; exact .inl h; exact .inr ⟨r, z, by rw [h, List.concat_eq_append]⟩) with rfl | ⟨r, z, rfl⟩
    · have hv : ∃ va vc, tv = .slice va 0 vc := by
        rcases own_shape h3.t with ⟨rfl, _⟩ | ⟨g, cap, cs, rfl, _⟩
        · exact ⟨_, _, rfl⟩
        · exact ⟨_, _, rfl⟩
      obtain ⟨va, vc, rfl⟩ := hv
      have HF : Hid (ReachIs w start (nextW ws) m sh (.returned (.slice (some ⟨w.heap.size + 1, 0, none⟩) (m + 1) (m + 1))) wr) := Lib.hid (by
        obtain ⟨g1, g2, g3⟩ := h1.all HR.out HNX2.out hsh
        exact ⟨_, bs, be, rfl, by omega, h3.o, g1, g2, g3, hWb⟩)
      clear h1 h2 h3 HS hWb x0 x1 x2 x3 x4 x5 lx
      go_wp2
      go_ret
      exact HF.out
    · rcases own_shape h3.t with ⟨_, h9, _⟩ | ⟨g, cap, cs, hvv, hg, hgh, hnc, hcm, hcl, htk⟩
      · simp at h9
      · obtain ⟨q, hq⟩ : ∃ q, r.length = q := ⟨_, rfl⟩
        have e1 : (r ++ [z]).length = q + 1 := by simp [hq]
        rw [e1] at hvv hnc
        subst hvv
        have hcz : wr.cell? ⟨g, q, none⟩ = some (.int .i64 z) := by
          have h3t := h3.t
          rw [e1] at h3t
          have h9 := own_cell h3t (xs := (r ++ [z]).map (Value.int .i64)) q (by simp [hq])
          rw [h9]
          simp [hq]
        have hgl := hgh.lt
        have h4 := h3.pop hq
        have hzr : z = -1 ∨ 0 ≤ z ∧ z < m := by
          rcases h1.src z (by simp) with h9 | ⟨y, _, h9⟩
          · exact HR.out z h9
          · exact HNX2.out y z h9
        have hqk : 3 * falses m bs + q + 1 ≤ gk := by rw [e1] at h2; omega
        have hsl : wr.heap.size ≥ w.heap.size + 1 := lx
        have hwq : IntKind.i64.wrap ((q : Int) + 1 - 1) = (q : Int) := by rw [Int.add_sub_cancel]; exact IntWalk.i64_in _ (by omega)
        have hwq2 : IntKind.i64.wrap (q : Int) = (q : Int) := IntWalk.i64_in _ (by omega)
        have hq1 : (q : Int) < (q : Int) + 1 := by omega
        have hq0 : (0 : Int) ≤ (q : Int) := by omega
        have hqc : (q : Int) ≤ (cap : Int) := by omega
        have hqp : (q : Int) + 1 > 0 := by omega
        have H1 := Lib.hid h1
        have H4 := Lib.hid h4
        have HQ := Lib.hid hq
        have HWb := Lib.hid hWb
        clear h1 h2 h3 HS hWb hgh hcl htk e1 h4 hq hcm hg
        by_cases hzs : z = sh
        · have hzb : (z == sh) = true := by simpa using hzs
          have HE : Hid (RchH w1 wr (w.heap.size + 1) (w.heap.size + 1) m start (nextW ws) sh (gk - 1) (.slice (some ⟨g, 0, none⟩) q cap)) := Lib.hid ⟨bs, be, r, H1.out.drop (.inl hzs), by rw [HQ.out]; omega, H4.out⟩
          clear H1 H4 hzs
          go_wp2
          go_roundg (gk - 1)
          case measure => omega
          case rel => exact ⟨_, rfl, by omega, HE⟩
        · have hzb : (z == sh) = false := by simpa using hzs
          by_cases hze : z = -1
          · subst hze
            have HE : Hid (RchH w1 (wr.setCell ⟨w.heap.size + 1, m, none⟩ (.bool true)) (w.heap.size + 1) (w.heap.size + 1) m start (nextW ws) sh (gk - 1) (.slice (some ⟨g, 0, none⟩) q cap)) := Lib.hid ⟨bs, true, r, H1.out.ends, by rw [HQ.out]; omega, H4.out.put out_set_end⟩
            have cO := (H4.out.o.cell m).trans out_end
            have lO := H4.out.o.lt
            have fO := H4.out.o.frozen m
            have hmi : (m : Int) < (m : Int) + 1 := by omega
            have hm0 : (0 : Int) ≤ (m : Int) := by omega
            clear H1 H4 hzs
            go_wp2
            go_roundg (gk - 1)
            case measure => omega
            case rel => exact ⟨_, rfl, by omega, HE⟩
          · obtain ⟨n, rfl⟩ := Int.eq_ofNat_of_zero_le (show 0 ≤ z by omega)
            have hn : n < m := by omega
            have hze1 : ((n : Int) == -1) = false := by simp
            have hni : (n : Int) < (m : Int) + 1 := by omega
            have hn0 : (0 : Int) ≤ (n : Int) := by omega
            have cO := (H4.out.o.cell n).trans (out_get hn)
            have lO := H4.out.o.lt
            have fO := H4.out.o.frozen n
            cases hbn : bs n with
            | true =>
              rw [hbn] at cO
              have HE : Hid (RchH w1 wr (w.heap.size + 1) (w.heap.size + 1) m start (nextW ws) sh (gk - 1) (.slice (some ⟨g, 0, none⟩) q cap)) := Lib.hid ⟨bs, be, r, H1.out.drop (.inr (.inr ⟨n, rfl, hn, hbn⟩)), by rw [HQ.out]; omega, H4.out⟩
              clear H1 H4 hzs hbn
              go_wp2
              go_roundg (gk - 1)
              case measure => omega
              case rel => exact ⟨_, rfl, by omega, HE⟩
            | false =>
              rw [hbn] at cO
              have h5 := H4.out.put (n := n) (out_set hn)
              obtain ⟨⟨z0, z1, z2, z3, z4, z5⟩, lz, hWz⟩ := HX.out _ h5.b
              have HC := Lib.hid (HNe.out n _ (by omega) hWz)
              have HNn2 := Lib.hid (HNn.out n hn)
              have HP5 := Lib.hid (H1.out.more hn hzs (fun z hz => (HR.out z hz).imp id (·.1)) (fun k z hz => (HNX2.out k z hz).imp id (·.1)))
              have hfl := falses_less (m := m) (bs := bs) hn hbn
              have H5 := Lib.hid h5
              clear H1 H4 hzs hbn h5 hWz
              go_wp2_with fail
              refine HC.out.mono ?_
              rintro e w6 ⟨v6, rfl, ho6, hb6⟩
              rcases row_of_own ho6 with ⟨h9, _⟩ | ⟨F6, c6, rfl, hg6, hrow6⟩
              · exact absurd h9 HNn2.out
              · have hl2 : (nextV ws (n : Int)).length ≤ 2 := HNX.out.l n
                obtain ⟨v7, w7, hrun7, HS7⟩ := H5.out.more hb6 (Nat.le_of_lt lz |> fun h => by simp at lz ⊢; omega) (by rw [HQ.out]; omega) (c0 := c6) hrow6 (by omega) 26
                have HRun7 := Lib.hid hrun7
                have HE : Hid (RchH w1 w7 (w.heap.size + 1) (w.heap.size + 1) m start (nextW ws) sh (gk - 1) v7) := Lib.hid ⟨_, be, _, HP5.out, by rw [List.length_append, HQ.out]; have : (nextW ws n).length ≤ 2 := hl2; omega, HS7.out⟩
                clear HC HP5 H5 HNn2 ho6 hb6 hg6 hrow6 hrun7 HS7 hfl
                generalize (nextV ws (n : Int)).length = q6 at HRun7 hl2 ⊢
                go_wp2_with (at_builtin; refine wpList_append_run (by rfl) (.tmp 49) (.tmp 52) 26 rfl _ _ _ _ rfl rfl HRun7.out ?_)
                go_roundg (gk - 1)
                case measure => omega
                case rel => exact ⟨_, rfl, by omega, HE⟩
end FlowD
end Go.Proofs.YtajhkogknpmnbaaDoor
