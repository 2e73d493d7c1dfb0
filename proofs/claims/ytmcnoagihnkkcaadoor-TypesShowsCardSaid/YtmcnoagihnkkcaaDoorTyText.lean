/- Types as texts (plain), and a row of texts that grows. -/
import Derived.Test.YtmcnoagihnkkcaaDoorTyKinds
import Derived.Test.YtmcnoagihnkkcaaDoorTyClone
import Derived.Lib.Join
namespace Go.Proofs.YtmcnoagihnkkcaaDoor
open Go.RowKit ObjM
namespace TyD
open LexD (nameB WTab)

def joinB (xs : List ByteArray) (sep : ByteArray) : ByteArray := ⟨(Lib.join (xs.map (·.data.toList)) sep.data.toList).toArray⟩
def baseName (k : Int) : ByteArray :=
  if k = 0 then ⟨#[97, 110, 121]⟩ else if k = 1 then ⟨#[110, 105, 108]⟩ else if k = 2 then ⟨#[98, 111, 111, 108]⟩ else if k = 3 then ⟨#[105, 110, 116]⟩ else if k = 4 then ⟨#[115, 116, 114, 105, 110, 103]⟩ else if k = 5 then ⟨#[116, 97, 98, 108, 101]⟩ else ⟨#[116, 104, 114, 101, 97, 100]⟩
def barB : ByteArray := ⟨#[32, 124, 32]⟩
def commaB : ByteArray := ⟨#[44, 32]⟩
def colonB : ByteArray := ⟨#[58, 32]⟩
def openB : ByteArray := ⟨#[123]⟩
def shutB : ByteArray := ⟨#[125]⟩
def parB : ByteArray := ⟨#[40]⟩
def arrB : ByteArray := ⟨#[41, 32, 45, 62, 32]⟩
def fieldT (n : ByteArray) (t : ByteArray) : ByteArray := n ++ colonB ++ t
/-- A type that may be, as a text. -/
def txtF : Nat → Ty → ByteArray
  | 0, _ => ⟨#[]⟩
  | r + 1, .mk k ns ls =>
    if k = 7 then joinB (ls.map (txtF r)) barB
    else if k = 8 then openB ++ joinB (List.zipWith fieldT ns (ls.map (txtF r))) commaB ++ shutB
    else if k = 9 then parB ++ joinB (ls.map (txtF r)).dropLast commaB ++ arrB ++ (ls.map (txtF r)).getLastD ⟨#[]⟩
    else baseName k
def sumL (l : List Nat) : Nat := l.foldr (· + ·) 0
/-- What a type's text weighs at most. -/
def wtF : Nat → Ty → Nat
  | 0, _ => 8
  | r + 1, .mk _ ns ls => 20 + sumL (ns.map ByteArray.size) + sumL (ls.map (wtF r))
theorem bsize (x : ByteArray) : x.data.toList.length = x.size := by
  rw [Array.length_toList]
  rfl
theorem mk_size (l : List UInt8) : (⟨l.toArray⟩ : ByteArray).size = l.length := by
  show l.toArray.size = _
  rw [List.size_toArray]
theorem lens_eq (xs : List ByteArray) : Lib.lens (xs.map (·.data.toList)) = sumL (xs.map ByteArray.size) := by
  induction xs with
  | nil => rfl
  | cons a l ih =>
    have e : Lib.lens ((a :: l).map (·.data.toList)) = a.data.toList.length + Lib.lens (l.map (·.data.toList)) := by simp [Lib.lens]
    rw [e, ih, bsize]
    rfl
theorem joinB_size (xs : List ByteArray) (sep : ByteArray) : (joinB xs sep).size ≤ sep.size * xs.length + sumL (xs.map ByteArray.size) := by
  cases xs with
  | nil => exact Nat.le_trans (Nat.le_of_eq (mk_size _)) (by simp [Lib.join, List.intercalate])
  | cons x r =>
    have h := Lib.join_length x.data.toList (r.map (·.data.toList)) sep.data.toList
    have e : (joinB (x :: r) sep).size = (Lib.join (x.data.toList :: r.map (·.data.toList)) sep.data.toList).length := mk_size _
    have e3 : Lib.lens (x.data.toList :: r.map (·.data.toList)) = sumL ((x :: r).map ByteArray.size) := lens_eq (x :: r)
    rw [e, h, e3, bsize, List.length_map, List.length_cons, Nat.mul_add]
    omega
theorem sum_le {α : Type} (f g : α → Nat) (l : List α) (h : ∀ a ∈ l, f a + 8 ≤ g a) : sumL (l.map f) + 8 * l.length ≤ sumL (l.map g) := by
  induction l with
  | nil => simp [sumL]
  | cons a l ih =>
    have h1 := h a (List.mem_cons_self ..)
    have h2 := ih fun x hx => h x (List.mem_cons_of_mem _ hx)
    simp only [List.map_cons, sumL, List.foldr_cons, List.length_cons] at h2 ⊢
    omega
theorem sum_zip (ns ls : List ByteArray) : sumL ((List.zipWith fieldT ns ls).map ByteArray.size) ≤ sumL (ns.map ByteArray.size) + sumL (ls.map ByteArray.size) + 2 * ls.length := by
  induction ns generalizing ls with
  | nil => simp [sumL]
  | cons n ns ih =>
    cases ls with
    | nil => simp [sumL]
    | cons l ls =>
      have h := ih ls
      have e : (fieldT n l).size = n.size + 2 + l.size := by
        unfold fieldT
        rw [ByteArray.size_append, ByteArray.size_append]
        rfl
      simp only [List.zipWith_cons_cons, List.map_cons, sumL, List.foldr_cons, List.length_cons] at h ⊢
      omega
theorem zip_len (ns ls : List ByteArray) : (List.zipWith fieldT ns ls).length ≤ ls.length := by
  rw [List.length_zipWith]
  omega
theorem sum_drop (l : List ByteArray) : sumL (l.dropLast.map ByteArray.size) + (l.getLastD ⟨#[]⟩).size ≤ sumL (l.map ByteArray.size) ∧ l.dropLast.length ≤ l.length := by
  induction l with
  | nil => exact ⟨Nat.le_refl _, Nat.le_refl _⟩
  | cons a l ih =>
    cases l with
    | nil => simp [sumL]
    | cons b l =>
      simp only [List.dropLast_cons_cons, List.map_cons, sumL, List.foldr_cons, List.length_cons, List.getLastD_cons] at ih ⊢
      omega
theorem base_size (k : Int) : (baseName k).size ≤ 6 := by
  unfold baseName
  repeat' split
  all_goals decide
theorem txt_size : ∀ (r : Nat) (t : Ty), (txtF r t).size + 8 ≤ wtF r t
  | 0, _ => Nat.le_refl 8
  | r + 1, .mk k ns ls => by
    have hs := sum_le (fun t => (txtF r t).size) (wtF r) ls fun a _ => txt_size r a
    have hm : (ls.map fun t => (txtF r t).size) = (ls.map (txtF r)).map ByteArray.size := by simp
    have hl : (ls.map (txtF r)).length = ls.length := List.length_map ..
    rw [hm] at hs
    rw [txtF, wtF]
    split
    · have h := joinB_size (ls.map (txtF r)) barB
      have e : barB.size = 3 := rfl
      rw [e] at h
      omega
    · split
      · have h := joinB_size (List.zipWith fieldT ns (ls.map (txtF r))) commaB
        have h2 := sum_zip ns (ls.map (txtF r))
        have h3 := zip_len ns (ls.map (txtF r))
        have e : commaB.size = 2 := rfl
        have e1 : openB.size = 1 := rfl
        have e2 : shutB.size = 1 := rfl
        rw [e] at h
        rw [ByteArray.size_append, ByteArray.size_append]
        omega
      · split
        · have h := joinB_size (ls.map (txtF r)).dropLast commaB
          have h2 := sum_drop (ls.map (txtF r))
          have e : commaB.size = 2 := rfl
          have e1 : parB.size = 1 := rfl
          have e2 : arrB.size = 5 := rfl
          rw [e] at h
          rw [ByteArray.size_append, ByteArray.size_append, ByteArray.size_append]
          omega
        · have := base_size k
          omega
/-- The names as the program's text lays them. -/
def NTab (w : World) : Prop := 1 < w.heap.size ∧ ∀ q : Nat, q < 7 → w.cell? ⟨1, q, none⟩ = some (.string (baseName (q : Int)))
theorem NTab.below {w w' : World} (h : NTab w) (hb : Below w.heap.size w w') : NTab w' := ⟨Nat.lt_of_lt_of_le h.1 hb.size, fun q hq => (hb.cell (p := ⟨_, q, none⟩) h.1).trans (h.2 q hq)⟩
def StrB (w : World) (s : ByteArray) (e : Ending) (w' : World) : Prop := e = .returned (.string s) ∧ Below w.heap.size w w'
/-- append of one text. -/
theorem str_push {W : World} {base : Nat} {v : Value} {xs : List ByteArray} (h : W.ownsRow base 9 1 v xs.length (xs.map Value.string)) (s : ByteArray) (hn : xs.length ≤ 1000000000000) (hb : base ≤ W.heap.size) :
    ∃ v' w', (Builtin.append_ #[22, 22] 22 #[v, .slice (some ⟨W.heap.size, 0, none⟩) 1 1]).run Tryd.prog (W.alloc (.cells #[.string s] 9)) = .ok v' w' ∧
      w'.ownsRow base 9 1 v' (xs ++ [s]).length ((xs ++ [s]).map Value.string) ∧ Below base W w' := by
  obtain ⟨i0, hi0, hz0, hz1, hz2⟩ := info_parts infoString
  obtain ⟨v', w', hrun, ho, hg, -, hat⟩ := run_append_own_at (P := Tryd.prog) (w := W.alloc (.cells #[.string s] 9)) base 22 22 9 i0 (.string ⟨#[]⟩) 1 16 Tryd.underlying22 hi0 hz0 hz1 hz2 rfl (by decide) v xs.length (xs.map Value.string) (h.alloc _) ⟨W.heap.size, 0, none⟩ 1 1 [.string s] rfl
    (fun k u hk => by rw [addr_at, Nat.zero_add, (Has.new W 9 [.string s]).cell]; exact hk) (by intro u hu; simp at hu; subst hu; rfl) (by unfold maxLen; omega) (by omega) (by simp; omega)
  refine ⟨v', w', hrun, by simpa using ho, ?_⟩
  exact ((Below.refl base W).alloc hb _).trans ((Keeps.grown hg).toBelow base (by simp; omega) (fun x hx => (own_lt h x (Option.mem_toList.1 hx)).1))
theorem own_strs {W : World} {base : Nat} {v : Value} {xs : List ByteArray} (h : W.ownsRow base 9 1 v xs.length (xs.map Value.string)) :
    (v = .slice none 0 0 ∧ xs = []) ∨ ∃ g c, v = .slice (some ⟨g, 0, none⟩) xs.length c ∧ base ≤ g ∧ g < W.heap.size ∧ xs.length ≤ c ∧ c ≤ maxLen ∧ W.frozen? ⟨g, 0, none⟩ = false ∧ (∀ i, W.frozen? ⟨g, i, none⟩ = false) ∧ ∀ (i : Nat) x, xs[i]? = some x → W.cell? ⟨g, i, none⟩ = some (.string x) := by
  rcases own_shape h with ⟨rfl, hn, _⟩ | ⟨g, cap, cs, rfl, hb, hh, hnc, hcm, _, _⟩
  · exact .inl ⟨rfl, List.length_eq_zero_iff.1 hn⟩
  · refine .inr ⟨g, cap, rfl, hb, hh.lt, hnc, hcm, hh.frozen 0, fun i => hh.frozen i, fun i x hi => ?_⟩
    have hi2 : (xs.map Value.string)[i]? = some (.string x) := by rw [List.getElem?_map, hi]; rfl
    obtain ⟨hlt, hv⟩ := List.getElem?_eq_some_iff.1 hi2
    rw [own_cell h i hlt, hv]
/-- One text of the row is set. -/
theorem own_set {W : World} {base g n c : Nat} {xs : List ByteArray} (h : W.ownsRow base 9 1 (.slice (some ⟨g, 0, none⟩) n c) xs.length (xs.map Value.string)) (i : Nat) (s : ByteArray) :
    (W.setCell ⟨g, i, none⟩ (.string s)).ownsRow base 9 1 (.slice (some ⟨g, 0, none⟩) n c) (xs.set i s).length ((xs.set i s).map Value.string) := by
  rcases own_shape h with ⟨h1, _⟩ | ⟨g', cap', cs, h1, hb, hh, hn, hc, hl, ht⟩
  · cases h1
  · injection h1 with h2 h3 h4
    injection h2 with h2
    injection h2 with h5
    subst h5 h4 h3
    rw [List.length_set]
    refine own_of hb (hh.set i (.string s)) hn hc (by rw [List.length_set]; exact hl) ?_
    rw [List.map_set, ← ht, List.take_set]
end TyD
end Go.Proofs.YtmcnoagihnkkcaaDoor
