/- Reading and writing on both sides, the rows of events apart. -/
import Derived.Test.YteohgacblilfmaaWorldBoth
import Derived.Test.YteohgacblilfmaaWorldV2
namespace Go.Proofs.Yteohgacblilfmaa
open Go.RowKit ObjM Shell Go.ChangeShapes Go.WideShapes
namespace WorldD
open LabelM LabelD TraceD

def ReadIsV (w : World) (B G : Nat) (l : List Ch) (ev : List Ev) (sv : Value) (k : Nat) (r : (Int × Int × Int × Int) × Ch) (e : Ending) (w' : World) : Prop :=
  e = .returned (.tuple #[valA r.1.1 r.1.2.1 r.1.2.2.1 ⟨#[]⟩, .int .i64 r.1.2.2.2]) ∧ IsWv w' B G (l.set k r.2) ev sv ∧ KeepsT [60] w w' ∧ Below B w w'
theorem read_anyv (B G : Nat) (l : List Ch) (ev : List Ev) (sv : Value) (pc k : Nat) (hpc : pc < M64) (hk : k < 8) (c : Ch) (hc : l[k]? = some c) (w : World) (hBw : B ≤ w.heap.size) (h : IsWv w B G l ev sv) :
    Calls Try.prog 9 #[.pointer (some ⟨G, 0, none⟩), .int .u64 (pc : Int), .int .i64 (k : Int)] w (ReadIsV w B G l ev sv k (readC c pc)) := by
  have h' := h
  obtain ⟨hG, hO, hB, hl, hok⟩ := h
  obtain ⟨hm, hn, hx, ho⟩ := hok c (List.mem_of_getElem? hc)
  have stay : ∀ kd n lab er, Calls Try.prog 9 #[.pointer (some ⟨G, 0, none⟩), .int .u64 (pc : Int), .int .i64 (k : Int)] w (ReadOut w kd n lab er) →
      Calls Try.prog 9 #[.pointer (some ⟨G, 0, none⟩), .int .u64 (pc : Int), .int .i64 (k : Int)] w (ReadIsV w B G l ev sv k ((kd, n, lab, er), c)) := by
    intro kd n lab er hh
    refine hh.mono fun e w' hw => ⟨hw.1, ?_, KeepsT.below hw.2 _, hw.2.mono hBw⟩
    rw [set_same hc]
    exact h'.below hw.2
  unfold readC
  cases hfl : flowsB pc c.m with
  | false => exact stay 0 0 0 40 (read_no G l sv pc k hpc c hc hk hm hfl w hG)
  | true =>
    rw [if_neg (by simp)]
    by_cases hne : c.n = c.xs.length
    · rw [if_pos hne]
      obtain ⟨av, cp, hv⟩ := own_slice ho
      exact stay 0 0 c.m 0 (read_end G l sv pc k hpc c hc hk hm hfl av cp hv hne w hG)
    · rw [if_neg hne]
      refine (read_num B G hB l hl sv pc k hpc c hc hk hm hfl hx (by omega) w hBw hG ho).mono fun e w' hw => ⟨hw.1, ⟨hw.2.1, own_keepsT hO hw.2.2.1 (by decide), hB, by simpa using hl, fun d hd => ?_⟩, hw.2.2.1, hw.2.2.2⟩
      rcases List.mem_or_eq_of_mem_set hd with hd | rfl
      · exact (hok d hd).keeps hw.2.2.1 (by decide)
      · exact ⟨hm, by show c.n + 1 ≤ c.xs.length; omega, hx, own_keepsT ho hw.2.2.1 (by decide)⟩
def RReadIsV (w : World) (B R : Nat) (l : List Ch) (ev : List Ev) (sv : Value) (k : Nat) (r : (Int × Int × Int × Int) × Ch) (e : Ending) (w' : World) : Prop :=
  e = .returned (.tuple #[valA r.1.1 r.1.2.1 r.1.2.2.1 ⟨#[]⟩, .int .i64 r.1.2.2.2]) ∧ IsRv w' B R (l.set k r.2) ev sv ∧ KeepsT [37] w w' ∧ Below B w w'
theorem refRead_anyv (B R : Nat) (l : List Ch) (ev : List Ev) (sv : Value) (pc k : Nat) (hpc : pc < M64) (hk : k < 8) (c : Ch) (hc : l[k]? = some c) (w : World) (hBw : B ≤ w.heap.size) (h : IsRv w B R l ev sv) (ho : IntsAt w .i64 c.v c.xs) :
    Calls Try.prog 10 #[.pointer (some ⟨R, 0, none⟩), .int .u64 (pc : Int), .int .i64 (k : Int)] w (RReadIsV w B R l ev sv k (readC c pc)) := by
  have h' := h
  obtain ⟨hG, hO, hB, hl, hok⟩ := h
  obtain ⟨hm, hn, hx⟩ := hok c (List.mem_of_getElem? hc)
  have stay : ∀ kd n lab er, Calls Try.prog 10 #[.pointer (some ⟨R, 0, none⟩), .int .u64 (pc : Int), .int .i64 (k : Int)] w (RReadOut w kd n lab er) →
      Calls Try.prog 10 #[.pointer (some ⟨R, 0, none⟩), .int .u64 (pc : Int), .int .i64 (k : Int)] w (RReadIsV w B R l ev sv k ((kd, n, lab, er), c)) := by
    intro kd n lab er hh
    refine hh.mono fun e w' hw => ⟨hw.1, ?_, KeepsT.below hw.2 _, hw.2.mono hBw⟩
    rw [set_same hc]
    exact h'.below hw.2
  unfold readC
  cases hfl : flowsB pc c.m with
  | false => exact stay 0 0 0 40 (refRead_no R l hl sv pc k hpc c hc hk hm hfl w hG)
  | true =>
    rw [if_neg (by simp)]
    by_cases hne : c.n = c.xs.length
    · rw [if_pos hne]
      obtain ⟨av, cp, hv⟩ := ints_shape ho
      exact stay 0 0 c.m 0 (refRead_end R l hl sv pc k hpc c hc hk hm hfl av cp hv hne w hG)
    · rw [if_neg hne]
      refine (refRead_num B R hB l hl sv pc k hpc c hc hk hm hfl hx (by omega) w hBw hG ho).mono fun e w' hw => ⟨hw.1, ⟨hw.2.1, own_keepsT hO hw.2.2.1 (by decide), hB, by simpa using hl, fun d hd => ?_⟩, hw.2.2.1, hw.2.2.2⟩
      rcases List.mem_or_eq_of_mem_set hd with hd | rfl
      · exact hok d hd
      · exact ⟨hm, by show c.n + 1 ≤ c.xs.length; omega, hx⟩
/-- Both stand, alike and apart. -/
def Two (w : World) (B G R : Nat) (m : Nat → Nat) (a : Nat → Option Addr) (z : Nat → List Int) (q : Nat → Nat) (n : Nat → Nat) (l : List Ch) (ev : List Ev) : Prop :=
  ∃ sv su, IsWv w B G l ev sv ∧ IsRv w B R (refL m a z q n) ev su ∧ Dj sv su ∧ Mt l m z n
theorem Two.keeps {w w' : World} {B G R : Nat} {m : Nat → Nat} {a : Nat → Option Addr} {z : Nat → List Int} {q : Nat → Nat} {n : Nat → Nat} {l : List Ch} {ev : List Ev} {ts : List TypeId} (h : Two w B G R m a z q n l ev) (k : KeepsT ts w w') (h1 : 60 ∉ ts) (h2 : 65 ∉ ts) (h3 : 2 ∉ ts) (h4 : 37 ∉ ts) : Two w' B G R m a z q n l ev := by
  obtain ⟨sv, su, hW, hR, hd, hM⟩ := h
  exact ⟨sv, su, hW.keeps k h1 h2 h3, hR.keeps k h4 h2, hd, hM⟩
theorem Two.below {w w' : World} {B G R : Nat} {m : Nat → Nat} {a : Nat → Option Addr} {z : Nat → List Int} {q : Nat → Nat} {n : Nat → Nat} {l : List Ch} {ev : List Ev} (h : Two w B G R m a z q n l ev) (hb : Below w.heap.size w w') : Two w' B G R m a z q n l ev := h.keeps (KeepsT.below hb []) (by simp) (by simp) (by simp) (by simp)
/-- Half a step: the code has gone on, the definition not yet. -/
def Half (w : World) (B G R : Nat) (m : Nat → Nat) (a : Nat → Option Addr) (z : Nat → List Int) (q : Nat → Nat) (n n' : Nat → Nat) (l' : List Ch) (ev ev' : List Ev) : Prop :=
  ∃ sv su, IsWv w B G l' ev' sv ∧ IsRv w B R (refL m a z q n) ev su ∧ Dj sv su ∧ Mt l' m z n'
theorem Half.keeps {w w' : World} {B G R : Nat} {m : Nat → Nat} {a : Nat → Option Addr} {z : Nat → List Int} {q : Nat → Nat} {n n' : Nat → Nat} {l : List Ch} {ev ev' : List Ev} {ts : List TypeId} (h : Half w B G R m a z q n n' l ev ev') (k : KeepsT ts w w') (h1 : 60 ∉ ts) (h2 : 65 ∉ ts) (h3 : 2 ∉ ts) (h4 : 37 ∉ ts) : Half w' B G R m a z q n n' l ev ev' := by
  obtain ⟨sv, su, hW, hR, hd, hM⟩ := h
  exact ⟨sv, su, hW.keeps k h1 h2 h3, hR.keeps k h4 h2, hd, hM⟩
theorem Half.below {w w' : World} {B G R : Nat} {m : Nat → Nat} {a : Nat → Option Addr} {z : Nat → List Int} {q : Nat → Nat} {n n' : Nat → Nat} {l : List Ch} {ev ev' : List Ev} (h : Half w B G R m a z q n n' l ev ev') (hb : Below w.heap.size w w') : Half w' B G R m a z q n n' l ev ev' := h.keeps (KeepsT.below hb []) (by simp) (by simp) (by simp) (by simp)
def ReadH (w : World) (B G R : Nat) (m : Nat → Nat) (a : Nat → Option Addr) (z : Nat → List Int) (q : Nat → Nat) (n n' : Nat → Nat) (l' : List Ch) (ev : List Ev) (kd nn lab er : Int) (e : Ending) (w' : World) : Prop :=
  e = .returned (.tuple #[valA kd nn lab ⟨#[]⟩, .int .i64 er]) ∧ Half w' B G R m a z q n n' l' ev ev ∧ KeepsT [60] w w' ∧ Below B w w'
def ReadF (w : World) (B G R : Nat) (m : Nat → Nat) (a : Nat → Option Addr) (z : Nat → List Int) (q : Nat → Nat) (n' : Nat → Nat) (l' : List Ch) (ev : List Ev) (kd nn lab er : Int) (e : Ending) (w' : World) : Prop :=
  e = .returned (.tuple #[valA kd nn lab ⟨#[]⟩, .int .i64 er]) ∧ Two w' B G R m a z q n' l' ev ∧ KeepsT [37] w w' ∧ Below B w w'
theorem two_read (B G R : Nat) (m : Nat → Nat) (a : Nat → Option Addr) (z : Nat → List Int) (q : Nat → Nat) (n : Nat → Nat) (l : List Ch) (ev : List Ev) (pc : Nat) (hpc : pc < M64) (k : Int) (w : World) (hBw : B ≤ w.heap.size) (h : Two w B G R m a z q n l ev) :
    ∃ (kd nn lab er : Int) (l' : List Ch) (n' : Nat → Nat),
      Calls Try.prog 9 #[.pointer (some ⟨G, 0, none⟩), .int .u64 (pc : Int), .int .i64 k] w (ReadH w B G R m a z q n n' l' ev kd nn lab er) ∧
      ∀ W : World, B ≤ W.heap.size → Half W B G R m a z q n n' l' ev ev → (∀ j, j < 8 → IntsAt W .i64 (.slice (a j) (z j).length (q j)) (z j)) →
        Calls Try.prog 10 #[.pointer (some ⟨R, 0, none⟩), .int .u64 (pc : Int), .int .i64 k] W (ReadF W B G R m a z q n' l' ev kd nn lab er) := by
  obtain ⟨sv, su, hW, hR, hd, hM⟩ := h
  have hl8 := hW.2.2.2.1
  by_cases hk : 0 ≤ k ∧ k < 8
  · obtain ⟨j, rfl⟩ : ∃ j : Nat, k = j := ⟨k.toNat, by omega⟩
    have hj : j < 8 := by omega
    obtain ⟨c, hc⟩ : ∃ c, l[j]? = some c := ⟨_, List.getElem?_eq_getElem (by omega)⟩
    obtain ⟨e1, e2, e3⟩ := hM j c hc
    have hr0 := read_anyv B G l ev sv pc j hpc hj c hc w hBw hW
    rw [readC_eq] at hr0
    obtain ⟨⟨⟨kd, nn, lab, er⟩, x⟩, hxc⟩ : ∃ r, readR c.m c.xs c.n pc = r := ⟨_, rfl⟩
    rw [hxc] at hr0
    have hx : readR (m j) (z j) (n j) pc = ((kd, nn, lab, er), x) := by rw [← e1, ← e2, ← e3]; exact hxc
    refine ⟨kd, nn, lab, er, l.set j { c with n := x }, upd n j x, hr0.mono fun e w' hw => ⟨hw.1, ⟨sv, su, hw.2.1, hR.keeps hw.2.2.1 (by simp) (by simp), hd, hM.set hc x⟩, hw.2.2.1, hw.2.2.2⟩, fun W hBW hI hz => ?_⟩
    obtain ⟨sv', su', hW', hR', hd', hM'⟩ := hI
    have hr := refRead_anyv B R _ ev su' pc j hpc hj _ (refL_at m a z q n hj) W hBW hR' (hz j hj)
    rw [readC_eq] at hr
    simp only [hx] at hr
    refine hr.mono fun e w' hw => ⟨hw.1, ⟨sv', su', hW'.keeps hw.2.2.1 (by simp) (by simp) (by simp), ?_, hd', hM'⟩, hw.2.2.1, hw.2.2.2⟩
    have := hw.2.1
    rwa [show (refL m a z q n).set j _ = refL m a z q (upd n j x) from refL_set m a z q n hj x] at this
  · have hk' : k < 0 ∨ 8 ≤ k := by omega
    refine ⟨0, 0, 0, 1, l, n, (read_out _ pc k hk' w).mono fun e w' hw => ⟨hw.1, (show Half w B G R m a z q n n l ev ev from ⟨sv, su, hW, hR, hd, hM⟩).below hw.2, KeepsT.below hw.2 _, hw.2.mono hBw⟩, fun W hBW hI hz => (refRead_out _ pc k hk' W).mono fun e w' hw => ⟨hw.1, Two.below (show Two W B G R m a z q n l ev from hI) hw.2, KeepsT.below hw.2 _, hw.2.mono hBW⟩⟩
def WriteH (w : World) (B G R : Nat) (m : Nat → Nat) (a : Nat → Option Addr) (z : Nat → List Int) (q : Nat → Nat) (n : Nat → Nat) (l : List Ch) (ev ev' : List Ev) (er : Int) (e : Ending) (w' : World) : Prop :=
  e = .returned (.int .i64 er) ∧ Half w' B G R m a z q n n l ev ev' ∧ KeepsT [60, 65] w w' ∧ Below B w w'
def WriteF (w : World) (B G R : Nat) (m : Nat → Nat) (a : Nat → Option Addr) (z : Nat → List Int) (q : Nat → Nat) (n : Nat → Nat) (l : List Ch) (ev' : List Ev) (er : Int) (e : Ending) (w' : World) : Prop :=
  e = .returned (.int .i64 er) ∧ Two w' B G R m a z q n l ev' ∧ KeepsT [37, 65] w w' ∧ Below B w w'
theorem two_write (B G R : Nat) (m : Nat → Nat) (a : Nat → Option Addr) (z : Nat → List Int) (q : Nat → Nat) (n : Nat → Nat) (l : List Ch) (ev : List Ev) (hev : ev.length ≤ 2600000000000) (pc lab : Nat) (hpc : pc < M64) (hlab : lab < M64) (k kd nn : Int) (s : ByteArray) (w : World) (hBw : B ≤ w.heap.size) (h : Two w B G R m a z q n l ev) :
    ∃ (er : Int) (ev' : List Ev), ev'.length ≤ ev.length + 1 ∧
      Calls Try.prog 11 #[.pointer (some ⟨G, 0, none⟩), .int .u64 (pc : Int), .int .i64 k, .agg #[.int .i64 kd, .int .i64 nn, .string s, .int .u64 (lab : Int)]] w (WriteH w B G R m a z q n l ev ev' er) ∧
      ∀ W : World, B ≤ W.heap.size → Half W B G R m a z q n n l ev ev' →
        Calls Try.prog 12 #[.pointer (some ⟨R, 0, none⟩), .int .u64 (pc : Int), .int .i64 k, .agg #[.int .i64 kd, .int .i64 nn, .string s, .int .u64 (lab : Int)]] W (WriteF W B G R m a z q n l ev' er) := by
  have h' := h
  obtain ⟨sv, su, hW, hR, hd, hM⟩ := h
  have hl8 := hW.2.2.2.1
  have hh : Half w B G R m a z q n n l ev ev := h'
  by_cases hk : 0 ≤ k ∧ k < 8
  · obtain ⟨j, rfl⟩ : ∃ j : Nat, k = j := ⟨k.toNat, by omega⟩
    have hj : j < 8 := by omega
    obtain ⟨c, hc⟩ : ∃ c, l[j]? = some c := ⟨_, List.getElem?_eq_getElem (by omega)⟩
    have hm := (hW.2.2.2.2 c (List.mem_of_getElem? hc)).1
    obtain ⟨e1, e2, e3⟩ := hM j c hc
    cases hfl : flowsB (pc ||| lab) c.m
    · refine ⟨40, ev, by omega, (write_no G l sv pc j lab hpc hlab c hc hj hm hfl kd nn s w hW.1).mono fun e w' hw => ⟨hw.1, hh.below hw.2, KeepsT.below hw.2 _, hw.2.mono hBw⟩, fun W hBW hI => ?_⟩
      have hI2 : Two W B G R m a z q n l ev := hI
      obtain ⟨sv', su', hW', hR', hd', hM'⟩ := hI
      exact (refWrite_no R _ hR'.2.2.2.1 su' pc j lab hpc hlab _ (refL_at m a z q n hj) hj (by show m j < M64; rw [← e1]; exact hm) (by show flowsB (pc ||| lab) (m j) = false; rw [← e1]; exact hfl) kd nn s W hR'.1).mono fun e w' hw => ⟨hw.1, hI2.below hw.2, KeepsT.below hw.2 _, hw.2.mono hBW⟩
    · refine ⟨0, ev ++ [evOf j kd nn s], by simp, (write_okv B G l ev hev pc j lab hpc hlab c hc hj hfl kd nn s w hBw sv hW).mono fun e w' hw => ?_, fun W hBW hI => ?_⟩
      · obtain ⟨he, sv', hW', hob, hkk, hkt, hb⟩ := hw
        refine ⟨he, ⟨sv', su, hW', frameR hkk hW hR hd, hd.grow hR.2.1 fun g hg => ?_, hM⟩, hkt, hb⟩
        rcases hob with h1 | h1
        · exact .inl (h1.trans hg)
        · exact .inr (h1 g hg)
      · obtain ⟨sv', su', hW', hR', hd', hM'⟩ := hI
        refine (refWrite_okv B R _ ev hev pc j lab hpc hlab _ (refL_at m a z q n hj) hj (by show flowsB (pc ||| lab) (m j) = true; rw [← e1]; exact hfl) kd nn s W hBW su' hR').mono fun e w' hw => ?_
        obtain ⟨he, su2, hR2, hob, hkk, hkt, hb⟩ := hw
        refine ⟨he, ⟨sv', su2, frameW hkk hW' hR' hd', hR2, (hd'.symm.grow hW'.2.1 fun g hg => ?_).symm, hM'⟩, hkt, hb⟩
        rcases hob with h1 | h1
        · exact .inl (h1.trans hg)
        · exact .inr (h1 g hg)
  · have hk' : k < 0 ∨ 8 ≤ k := by omega
    exact ⟨1, ev, by omega, (write_out _ pc k hk' kd nn lab s w).mono fun e w' hw => ⟨hw.1, hh.below hw.2, KeepsT.below hw.2 _, hw.2.mono hBw⟩, fun W hBW hI => (refWrite_out _ pc k hk' kd nn lab s W).mono fun e w' hw => ⟨hw.1, Two.below (show Two W B G R m a z q n l ev from hI) hw.2, KeepsT.below hw.2 _, hw.2.mono hBW⟩⟩
theorem plV_mt {l : List Ch} {m : Nat → Nat} {z : Nat → List Int} {n : Nat → Nat} (h : Mt l m z n) (hl : l.length = 8) : plV (nAt l) 8 = [.int .i64 (n 0 : Int), .int .i64 (n 1 : Int), .int .i64 (n 2 : Int), .int .i64 (n 3 : Int), .int .i64 (n 4 : Int), .int .i64 (n 5 : Int), .int .i64 (n 6 : Int), .int .i64 (n 7 : Int)] := by
  have hn : ∀ j, j < 8 → nAt l j = n j := by
    intro j hj
    have hc : l[j]? = some (l[j]'(by omega)) := List.getElem?_eq_getElem (by omega)
    rw [nAt_of hc]
    exact (h j _ hc).2.2
  simp [plV, List.range_succ, hn]
end WorldD
end Go.Proofs.Yteohgacblilfmaa
