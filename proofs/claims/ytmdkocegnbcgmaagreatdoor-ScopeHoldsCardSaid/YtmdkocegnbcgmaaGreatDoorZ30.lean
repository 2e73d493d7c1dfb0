/- The document's parser in memory. -/
import Derived.Test.YtmdkocegnbcgmaaGreatDoorZ29
import Derived.Test.YtmdkocegnbcgmaaGreatDoorZ2
import Derived.Test.YtmdkocegnbcgmaaGreatDoorZ4
import Derived.Maps.AppendAt
import Derived.Test.YtmdkocegnbcgmaaGreatDoorZ16
namespace Go.Proofs.YtmdkocegnbcgmaaGreatDoor
open Go.RowKit ObjM
namespace ParD
open TreeD (Nd builtinV)
open LexD (Tok)

theorem addrP (b o n : Nat) : (⟨b, o, none⟩ : Addr).add n = ⟨b, o + n, none⟩ := by
  unfold Addr.add
  split
  · rename_i h; subst h; rfl
  · rfl
def rowN (nv : List (Nd × Value)) : List Value := nv.flatMap fun x => [.int .i64 x.1.kind, .string x.1.text, x.2, .int .i64 x.1.pos]
theorem rowN_len (nv : List (Nd × Value)) : (rowN nv).length = nv.length * 4 := by
  induction nv with
  | nil => rfl
  | cons a r ih => simp [rowN] at ih ⊢; omega
theorem rowN_snoc (nv : List (Nd × Value)) (x : Nd × Value) : rowN (nv ++ [x]) = rowN nv ++ [.int .i64 x.1.kind, .string x.1.text, x.2, .int .i64 x.1.pos] := by simp [rowN]
/-- Numbers in a row of the call's own. -/
def Row (W : World) (B : Nat) (v : Value) (ks : List Int) : Prop := W.ownsRow B 3 1 v ks.length (ks.map (Value.int .i64))
theorem tab_below {B : Nat} {W W' : World} (h : NumD.Tab W) (hg : 2 < B) (hb : Below B W W') : NumD.Tab W' := by
  unfold NumD.Tab Lib.TabIs World.var? at h ⊢
  rw [NumD.gPow] at h ⊢
  simp only [Option.bind_some] at h ⊢
  rw [hb.block _ hg]
  exact h
/-- The parser at block P, its tokens. -/
structure PAt (W : World) (B P : Nat) (T : List Tok) (A : Nat → Prop) (tv : Value) (st : PS) : Prop where
  lt : st.i < T.length
  tl : T.length ≤ 100000
  tks : ∃ b cap, tv = .slice (some ⟨b, 0, none⟩) T.length cap ∧ b < B ∧ ∀ (i : Nat) t, T[i]? = some t → TkC W b i t
  obj : ∃ lv nv, Has W P 53 [tv, .int .i64 (st.i : Int), lv, .int .i64 (st.opn : Int), .int .i64 0, .int .i64 0] ∧ nv.map (·.1) = st.l ∧ W.ownsRow B 40 4 lv nv.length (rowN nv) ∧ ∀ x ∈ nv, Row W B x.2 x.1.kids ∧ ∀ g, x.2.ownBlock = some g → ¬ A g
  low : B ≤ P
  bw : B ≤ W.heap.size
  ol : st.opn ≤ 150
  ll : st.l.length ≤ 1000
  tab : NumD.Tab W
  tg : 2 < B
  nb : ∀ t ∈ T, t.n ≤ 9223372036854775807
  av : ∀ k, A k → k < W.heap.size
/-- What a call of the parser leaves as it was. -/
structure Fr (B : Nat) (w w' : World) : Prop where
  k : KeepsT [53, 40] w w'
  b : Below B w w'
theorem Fr.refl (B : Nat) (w : World) : Fr B w w := ⟨KeepsT.refl _ _, Below.refl _ _⟩
theorem Fr.trans {B : Nat} {a b c : World} (h : Fr B a b) (k : Fr B b c) : Fr B a c := ⟨h.k.trans k.k fun _ h => h, h.b.trans k.b⟩
theorem Fr.drew {B : Nat} {a b : World} (h : Fr B a b) : Fr B a b.drew := ⟨h.k.drew, h.b.drew⟩
theorem Fr.alloc {B : Nat} {a b : World} (h : Fr B a b) (hB : B ≤ b.heap.size) (o : Obj) : Fr B a (b.alloc o) := ⟨h.k.alloc o, h.b.alloc hB o⟩
theorem Fr.of {B : Nat} {a b : World} (h : Below a.heap.size a b) (hB : B ≤ a.heap.size) : Fr B a b := ⟨KeepsT.below h _, h.mono hB⟩
theorem Row.fr {W W' : World} {B B' : Nat} {v : Value} {ks : List Int} (h : Row W B v ks) (k : Fr B' W W') : Row W' B v ks := own_keepsT h k.k (by decide +kernel)
theorem Row.keepsT {ts : List TypeId} {W W' : World} {B : Nat} {v : Value} {ks : List Int} (h : Row W B v ks) (k : KeepsT ts W W') (ht : 3 ∉ ts) : Row W' B v ks := own_keepsT h k ht
theorem Row.nil (W : World) (B : Nat) : Row W B (.slice none 0 0) [] := World.ownsRow_nil _ _ _ _
theorem tk_below {B : Nat} {W W' : World} {b : Nat} (hb : b < B) (k : Below B W W') {i : Nat} {t : Tok} (h : TkC W b i t) : TkC W' b i t :=
  ⟨(k.cell (p := ⟨b, _, none⟩) hb).trans h.1, (k.cell (p := ⟨b, _, none⟩) hb).trans h.2.1, (k.cell (p := ⟨b, _, none⟩) hb).trans h.2.2.1, (k.cell (p := ⟨b, _, none⟩) hb).trans h.2.2.2.1, (k.cell (p := ⟨b, _, none⟩) hb).trans h.2.2.2.2⟩
/-- Nothing that the parser has was written. -/
theorem PAt.below {W W' : World} {B P : Nat} {T : List Tok} {A : Nat → Prop} {tv : Value} {st : PS} (h : PAt W B P T A tv st) (k : Below W.heap.size W W') : PAt W' B P T A tv st := by
  obtain ⟨b, cap, e, hb, ht⟩ := h.tks
  obtain ⟨lv, nv, h1, h2, h3, h4⟩ := h.obj
  have kT : KeepsT [] W W' := KeepsT.below k _
  exact ⟨h.lt, h.tl, ⟨b, cap, e, hb, fun i t hi => tk_below hb (k.mono h.bw) (ht i t hi)⟩, ⟨lv, nv, h1.keepsT kT (by simp), h2, own_keepsT h3 kT (by simp), fun x hx => ⟨(h4 x hx).1.keepsT kT (by simp), (h4 x hx).2⟩⟩, h.low, Nat.le_trans h.bw k.size, h.ol, h.ll, tab_below h.tab h.tg (k.mono h.bw), h.tg, h.nb, fun a ha => Nat.lt_of_lt_of_le (h.av a ha) k.size⟩
theorem PAt.drew {W : World} {B P : Nat} {T : List Tok} {A : Nat → Prop} {tv : Value} {st : PS} (h : PAt W B P T A tv st) : PAt W.drew B P T A tv st := h.below (Below.refl _ _).drew
theorem PAt.alloc {W : World} {B P : Nat} {T : List Tok} {A : Nat → Prop} {tv : Value} {st : PS} (h : PAt W B P T A tv st) (o : Obj) : PAt (W.alloc o) B P T A tv st := h.below ((Below.refl _ _).alloc (Nat.le_refl _) _)
/-- What a walk reads. -/
structure Reads (W : World) (P b i o : Nat) (n cap : Nat) (lv : Value) (t : Tok) : Prop where
  c0 : W.cell? ⟨P, 0, none⟩ = some (.slice (some ⟨b, 0, none⟩) n cap)
  c1 : W.cell? ⟨P, 1, none⟩ = some (.int .i64 (i : Int))
  c2 : W.cell? ⟨P, 2, none⟩ = some lv
  c3 : W.cell? ⟨P, 3, none⟩ = some (.int .i64 (o : Int))
  c4 : W.cell? ⟨P, 4, none⟩ = some (.int .i64 0)
  c5 : W.cell? ⟨P, 5, none⟩ = some (.int .i64 0)
  f : ∀ k, W.frozen? ⟨P, k, none⟩ = false
  lp : P < W.heap.size
  t0 : W.cell? ⟨b, i * 5, none⟩ = some (.int .i64 t.kind)
  t1 : W.cell? ⟨b, i * 5 + 1, none⟩ = some (.string t.text)
  t2 : W.cell? ⟨b, i * 5 + 2, none⟩ = some (.int .i64 t.lo)
  t3 : W.cell? ⟨b, i * 5 + 3, none⟩ = some (.int .i64 t.hi)
  t4 : W.cell? ⟨b, i * 5 + 4, none⟩ = some (.int .i64 t.n)
  lb : b < W.heap.size
  ne : b ≠ P
  li : (i : Int) < (n : Int)
  l0 : (0 : Int) ≤ (i : Int)
  ls : (i : Int) ≤ 100000
theorem PAt.reads {W : World} {B P : Nat} {T : List Tok} {A : Nat → Prop} {tv : Value} {st : PS} (h : PAt W B P T A tv st) : ∃ b cap la ln lc, tv = .slice (some ⟨b, 0, none⟩) T.length cap ∧ ln = st.l.length ∧ Reads W P b st.i st.opn T.length cap (.slice la ln lc) (cur T st) := by
  obtain ⟨b, cap, e, hb, ht⟩ := h.tks
  obtain ⟨lv, nv, h1, h2, h3, -⟩ := h.obj
  subst e
  have hl : nv.length = st.l.length := by rw [← h2, List.length_map]
  obtain ⟨la, lc, rfl⟩ : ∃ la lc, lv = .slice la nv.length lc := by
    rcases own_shape h3 with ⟨rfl, e2, -⟩ | ⟨g, cap, cs, rfl, -⟩
    · exact ⟨none, 0, by rw [e2]⟩
    · exact ⟨_, _, rfl⟩
  have hc : cur T st = T[st.i]'h.lt := by unfold cur; rw [List.getD_eq_getElem?_getD, List.getElem?_eq_getElem h.lt]; rfl
  obtain ⟨t0, t1, t2, t3, t4⟩ := ht st.i _ (List.getElem?_eq_getElem h.lt)
  rw [← hc] at t0 t1 t2 t3 t4
  exact ⟨b, cap, la, _, lc, rfl, hl, h1.cell 0, h1.cell 1, h1.cell 2, h1.cell 3, h1.cell 4, h1.cell 5, fun k => h1.frozen k, h1.lt, t0, t1, t2, t3, t4, Nat.lt_of_lt_of_le hb h.bw, by have := h.low; omega, by have := h.lt; omega, by omega, by have := h.lt; have := h.tl; omega⟩
theorem PAt.setI {W : World} {B P i o : Nat} {T : List Tok} {A : Nat → Prop} {tv : Value} {l : List Nd} (h : PAt W B P T A tv ⟨i, l, o⟩) (hi : i + 1 < T.length) : PAt (W.setCell ⟨P, 1, none⟩ (.int .i64 ((i : Int) + 1))) B P T A tv ⟨i + 1, l, o⟩ ∧ Fr B W (W.setCell ⟨P, 1, none⟩ (.int .i64 ((i : Int) + 1))) := by
  obtain ⟨b, cap, e, hb, ht⟩ := h.tks
  obtain ⟨lv, nv, h1, h2, h3, h4⟩ := h.obj
  have kT : KeepsT [53] W (W.setCell ⟨P, 1, none⟩ (.int .i64 ((i : Int) + 1))) := (KeepsT.refl _ W).set h1 (.inl (by simp)) 1 _
  have kB : Below B W (W.setCell ⟨P, 1, none⟩ (.int .i64 ((i : Int) + 1))) := (Below.refl B W).setCell h.low _
  exact ⟨⟨hi, h.tl, ⟨b, cap, e, hb, fun i t hi => tk_below hb kB (ht i t hi)⟩, ⟨lv, nv, h1.set 1 _, h2, own_keepsT h3 kT (by decide +kernel), fun x hx => ⟨(h4 x hx).1.keepsT kT (by decide +kernel), (h4 x hx).2⟩⟩, h.low, Nat.le_trans h.bw kB.size, h.ol, h.ll, tab_below h.tab h.tg kB, h.tg, h.nb, fun a ha => Nat.lt_of_lt_of_le (h.av a ha) kB.size⟩, kT.mono (by simp), kB⟩
theorem PAt.setO {W : World} {B P i o o' : Nat} {T : List Tok} {A : Nat → Prop} {tv : Value} {l : List Nd} (h : PAt W B P T A tv ⟨i, l, o⟩) (ho : o' ≤ 150) (z : Int) (hz : z = (o' : Int)) : PAt (W.setCell ⟨P, 3, none⟩ (.int .i64 z)) B P T A tv ⟨i, l, o'⟩ ∧ Fr B W (W.setCell ⟨P, 3, none⟩ (.int .i64 z)) := by
  subst hz
  obtain ⟨b, cap, e, hb, ht⟩ := h.tks
  obtain ⟨lv, nv, h1, h2, h3, h4⟩ := h.obj
  have kT : KeepsT [53] W (W.setCell ⟨P, 3, none⟩ (.int .i64 (o' : Int))) := (KeepsT.refl _ W).set h1 (.inl (by simp)) 3 _
  have kB : Below B W (W.setCell ⟨P, 3, none⟩ (.int .i64 (o' : Int))) := (Below.refl B W).setCell h.low _
  exact ⟨⟨h.lt, h.tl, ⟨b, cap, e, hb, fun i t hi => tk_below hb kB (ht i t hi)⟩, ⟨lv, nv, h1.set 3 _, h2, own_keepsT h3 kT (by decide +kernel), fun x hx => ⟨(h4 x hx).1.keepsT kT (by decide +kernel), (h4 x hx).2⟩⟩, h.low, Nat.le_trans h.bw kB.size, ho, h.ll, tab_below h.tab h.tg kB, h.tg, h.nb, fun a ha => Nat.lt_of_lt_of_le (h.av a ha) kB.size⟩, kT.mono (by simp), kB⟩
/-- What a method of the parser comes to. -/
def Ret (B P : Nat) (T : List Tok) (A : Nat → Prop) (tv : Value) (w : World) (v : Value) (st' : PS) (e : Ending) (w' : World) : Prop := e = .returned v ∧ PAt w' B P T A tv st' ∧ Fr B w w'
end ParD
end Go.Proofs.YtmdkocegnbcgmaaGreatDoor
