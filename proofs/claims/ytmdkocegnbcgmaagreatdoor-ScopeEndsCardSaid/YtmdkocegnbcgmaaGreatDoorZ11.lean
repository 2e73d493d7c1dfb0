/- What a tree is: plain words. -/
import Derived.Test.YtmdkocegnbcgmaaGreatDoorZ6
import Derived.Test.YtmdkocegnbcgmaaGreatDoorZ8
import Derived.Test.YtmdkocegnbcgmaaGreatDoorZ10
import Derived.Lib.ItoaNum
import Derived.StillTailTactics
namespace Go.Proofs.YtmdkocegnbcgmaaGreatDoor
open Go.RowKit ObjM
namespace TreeD

/-- The kids that each kind wants, letter by letter. -/
def WANT : List (List UInt8) := [[], [99, 42, 98], [], [115, 42], [76, 69], [70], [97, 101], [107], [101, 98, 66], [101, 98], [69], [], [], [], [], [], [], [], [101], [101, 101], [101, 101, 42], [101, 42], [112, 42, 84, 98], [76], [110, 42], [101], [101], [101, 101], [101], [101, 101], [101, 101], [], [102, 42], [116], [116, 42, 116], [109, 109, 109, 42], [116]]
def exprB (k : Int) : Bool := (decide (13 ≤ k) && decide (k ≤ 22)) || decide (k = 24) || (decide (27 ≤ k) && decide (k ≤ 30))
def typeB (k : Int) : Bool := decide (31 ≤ k) && decide (k ≤ 35) && !decide (k = 33)
def statB (k : Int) : Bool := decide (4 ≤ k) && decide (k ≤ 11)
/-- Whether a kind may stand where a letter is. -/
def kidB (c : Nat) (k : Int) : Bool :=
  if c = 99 then decide (k = 2) else if c = 98 then decide (k = 3) else if c = 66 then decide (k = 3) || decide (k = 12)
  else if c = 115 then statB k else if c = 101 then exprB k else if c = 69 then exprB k || decide (k = 12)
  else if c = 116 then typeB k else if c = 84 then typeB k || decide (k = 12) else if c = 76 then typeB k || decide (k = 12) || decide (k = 36)
  else if c = 97 then decide (k = 17) || decide (k = 18) || decide (k = 19) else if c = 107 then decide (k = 20) || decide (k = 21)
  else if c = 70 then decide (k = 22) else if c = 112 then decide (k = 23) else if c = 110 then decide (k = 25) || decide (k = 26)
  else if c = 102 then decide (k = 33) else if c = 109 then decide (k = 31) || decide (k = 32) else false
/-- Letters, one for each kid; a letter with a star behind it stands many times. -/
def expand (many : Nat) : List UInt8 → List UInt8
  | [] => []
  | c :: r => (if c = 42 then [] else if r.head? = some 42 then List.replicate many c else [c]) ++ expand many r
def allKids : List UInt8 → List Int → Bool
  | [], [] => true
  | c :: p, k :: r => kidB c.toNat k && allKids p r
  | _, _ => false
def starB (s : List UInt8) : Bool := s.contains 42
def plainOf (s : List UInt8) : List UInt8 := s.filter (· != 42)
/-- How often what may stand often stands: of so many kids. -/
def manyV (s : List UInt8) (m : Nat) : Int := (m : Int) - ((plainOf s).length : Int) + (if starB s then 1 else 0)
def fitB (s : List UInt8) (ks : List Int) : Bool :=
  if manyV s ks.length < 0 ∨ (starB s = false ∧ manyV s ks.length ≠ 0) then false else allKids (expand (manyV s ks.length).toNat s) ks
theorem allKids_len : ∀ {p : List UInt8} {ks : List Int}, allKids p ks = true → p.length = ks.length
  | [], [], _ => rfl
  | [], _ :: _, h => by cases h
  | _ :: _, [], h => by cases h
  | c :: p, k :: r, h => by
    have : (kidB c.toNat k && allKids p r) = true := h
    rw [Bool.and_eq_true] at this
    simp [allKids_len this.2]
theorem allKids_cons (c : UInt8) (p : List UInt8) (k : Int) (r : List Int) : allKids (c :: p) (k :: r) = (kidB c.toNat k && allKids p r) := rfl
/-- As the document has it: letters ahead, one that may be there often, letters behind. -/
def rpat (k : Int) : Option (List UInt8 × Option UInt8 × List UInt8) :=
  if k = 1 then some ([], some 99, [98]) else if k = 3 then some ([], some 115, []) else if k = 4 then some ([76, 69], none, []) else if k = 5 then some ([70], none, [])
  else if k = 6 then some ([97, 101], none, []) else if k = 7 then some ([107], none, []) else if k = 8 then some ([101, 98, 66], none, []) else if k = 9 then some ([101, 98], none, [])
  else if k = 10 then some ([69], none, []) else if k = 18 ∨ k = 25 ∨ k = 26 ∨ k = 28 then some ([101], none, []) else if k = 19 ∨ k = 27 ∨ k = 29 ∨ k = 30 then some ([101, 101], none, [])
  else if k = 20 then some ([101], some 101, []) else if k = 21 then some ([], some 101, []) else if k = 22 then some ([], some 112, [84, 98]) else if k = 23 then some ([76], none, [])
  else if k = 24 then some ([], some 110, []) else if k = 32 then some ([], some 102, []) else if k = 33 ∨ k = 36 then some ([116], none, []) else if k = 34 then some ([], some 116, [116])
  else if k = 35 then some ([109, 109], some 109, []) else if k = 2 ∨ k = 11 ∨ k = 12 ∨ k = 13 ∨ k = 14 ∨ k = 15 ∨ k = 16 ∨ k = 17 ∨ k = 31 then some ([], none, []) else none
theorem allKids_no {p : List UInt8} {ks : List Int} (h : p.length ≠ ks.length) : allKids p ks = false := by
  cases e : allKids p ks with
  | false => rfl
  | true => exact absurd (allKids_len e) h
theorem expand_plain (m : Nat) : ∀ (s : List UInt8), starB s = false → expand m s = s
  | [], _ => rfl
  | c :: r, h => by
    have h1 : c ≠ 42 ∧ starB r = false := by
      simp [starB] at h
      exact ⟨fun e => h.1 e.symm, by simp [starB, h.2]⟩
    have h2 : r.head? ≠ some 42 := by
      intro e
      have := h1.2
      cases r with
      | nil => cases e
      | cons d t =>
        simp at e
        subst e
        simp [starB] at this
    show (if c = 42 then [] else if r.head? = some 42 then List.replicate m c else [c]) ++ expand m r = c :: r
    rw [if_neg h1.1, if_neg h2, expand_plain m r h1.2]
    rfl
theorem plainOf_plain {s : List UInt8} (h : starB s = false) : plainOf s = s := by
  unfold plainOf
  rw [List.filter_eq_self]
  intro c hc
  simp only [bne_iff_ne, ne_eq]
  rintro rfl
  simp [starB, hc] at h
theorem fit_plain {s : List UInt8} (h : starB s = false) (ks : List Int) : fitB s ks = allKids s ks := by
  unfold fitB manyV
  rw [plainOf_plain h, h, expand_plain _ s h]
  simp only [Bool.false_eq_true, if_false]
  split
  · rename_i hc
    rw [allKids_no]
    intro e
    rw [e] at hc
    simp at hc
  · rfl
theorem fit_star {s : List UInt8} (h : starB s = true) (ks : List Int) : fitB s ks = if ks.length + 1 < (plainOf s).length then false else allKids (expand (ks.length + 1 - (plainOf s).length) s) ks := by
  unfold fitB manyV
  rw [h]
  simp only [Bool.true_eq_false, if_true, false_and, or_false]
  by_cases h1 : ks.length + 1 < (plainOf s).length
  · rw [if_pos (by omega), if_pos h1]
  · rw [if_neg (by omega), if_neg h1]
    congr 2
    omega
def rfitP (a : List UInt8) (o : Option UInt8) (b : List UInt8) (ks : List Int) : Bool :=
  let more := (ks.length : Int) - (a.length : Int) - (b.length : Int)
  if more < 0 ∨ (0 < more ∧ o = none) then false else allKids (a ++ List.replicate more.toNat (o.getD 0) ++ b) ks
def rfitB (k : Int) (ks : List Int) : Bool :=
  match rpat k with
  | none => false
  | some (a, o, b) => rfitP a o b ks
theorem rfit_none (a b : List UInt8) (ks : List Int) : rfitP a none b ks = allKids (a ++ b) ks := by
  unfold rfitP
  simp only [and_true]
  split
  · rename_i hc
    rw [allKids_no]
    intro e
    simp at e
    omega
  · rename_i hc
    have : ((ks.length : Int) - (a.length : Int) - (b.length : Int)).toNat = 0 := by omega
    rw [this]
    simp
theorem rfit_some (a b : List UInt8) (o : UInt8) (ks : List Int) : rfitP a (some o) b ks = if ks.length < a.length + b.length then false else allKids (a ++ List.replicate (ks.length - a.length - b.length) o ++ b) ks := by
  unfold rfitP
  simp only [reduceCtorEq, and_false, or_false, Option.getD_some]
  by_cases h1 : ks.length < a.length + b.length
  · rw [if_pos (by omega), if_pos h1]
  · have e : ((ks.length : Int) - (a.length : Int) - (b.length : Int)).toNat = ks.length - a.length - b.length := by omega
    rw [if_neg (by omega), if_neg h1, e]
theorem fit_one {s a b : List UInt8} {o : UInt8} (hs : starB s = true) (hl : (plainOf s).length = a.length + b.length + 1) (he : ∀ m, expand m s = a ++ List.replicate m o ++ b) (ks : List Int) : fitB s ks = rfitP a (some o) b ks := by
  rw [fit_star hs, rfit_some, hl]
  by_cases h1 : ks.length < a.length + b.length
  · rw [if_pos (by omega), if_pos h1]
  · have e : ks.length + 1 - (a.length + b.length + 1) = ks.length - a.length - b.length := by omega
    rw [if_neg (by omega), if_neg h1, he, e]
theorem fit_same (k : Int) (h1 : 1 ≤ k) (h2 : k ≤ 36) (ks : List Int) : fitB (WANT.getD k.toNat []) ks = rfitB k ks := by
  obtain ⟨n, rfl⟩ : ∃ n : Nat, k = (n : Int) := ⟨k.toNat, by omega⟩
  have hn : n = 1 ∨ n = 3 ∨ n = 20 ∨ n = 21 ∨ n = 22 ∨ n = 24 ∨ n = 32 ∨ n = 34 ∨ n = 35 ∨ n = 2 ∨ n = 4 ∨ n = 5 ∨ n = 6 ∨ n = 7 ∨ n = 8 ∨ n = 9 ∨ n = 10 ∨ n = 11 ∨ n = 12 ∨ n = 13 ∨ n = 14 ∨ n = 15 ∨ n = 16 ∨ n = 17 ∨ n = 18 ∨ n = 19 ∨ n = 23 ∨ n = 25 ∨ n = 26 ∨ n = 27 ∨ n = 28 ∨ n = 29 ∨ n = 30 ∨ n = 31 ∨ n = 33 ∨ n = 36 := by omega
  clear h1 h2
  rcases hn with rfl | rfl | rfl | rfl | rfl | rfl | rfl | rfl | rfl | rfl | rfl | rfl | rfl | rfl | rfl | rfl | rfl | rfl | rfl | rfl | rfl | rfl | rfl | rfl | rfl | rfl | rfl | rfl | rfl | rfl | rfl | rfl | rfl | rfl | rfl | rfl
  · exact fit_one (a := []) (b := [98]) (o := 99) rfl rfl (fun m => by simp [WANT, expand]) ks
  · exact fit_one (a := []) (b := []) (o := 115) rfl rfl (fun m => by simp [WANT, expand]) ks
  · exact fit_one (a := [101]) (b := []) (o := 101) rfl rfl (fun m => by simp [WANT, expand]) ks
  · exact fit_one (a := []) (b := []) (o := 101) rfl rfl (fun m => by simp [WANT, expand]) ks
  · exact fit_one (a := []) (b := [84, 98]) (o := 112) rfl rfl (fun m => by simp [WANT, expand]) ks
  · exact fit_one (a := []) (b := []) (o := 110) rfl rfl (fun m => by simp [WANT, expand]) ks
  · exact fit_one (a := []) (b := []) (o := 102) rfl rfl (fun m => by simp [WANT, expand]) ks
  · exact fit_one (a := []) (b := [116]) (o := 116) rfl rfl (fun m => by simp [WANT, expand]) ks
  · exact fit_one (a := [109, 109]) (b := []) (o := 109) rfl rfl (fun m => by simp [WANT, expand]) ks
  all_goals
    rw [fit_plain (by rfl)]
    show _ = rfitP _ none _ ks
    rw [rfit_none]
    rfl
theorem rfit_kind {k : Int} {ks : List Int} (h : rfitB k ks = true) : 1 ≤ k ∧ k ≤ 36 := by
  have : rpat k ≠ none := by
    intro e
    unfold rfitB at h
    rw [e] at h
    cases h
  refine ⟨?_, ?_⟩
  · rcases Int.lt_or_le k 1 with h1 | h1
    · exfalso
      apply this
      unfold rpat
      repeat rw [if_neg (by omega)]
    · exact h1
  · rcases Int.lt_or_le 36 k with h1 | h1
    · exfalso
      apply this
      unfold rpat
      repeat rw [if_neg (by omega)]
    · exact h1
end TreeD
end Go.Proofs.YtmdkocegnbcgmaaGreatDoor

namespace Go.Proofs.YtmdkocegnbcgmaaGreatDoor
open Go.RowKit ObjM
namespace TreeD

def MaskP (t : List UInt8) : Prop := ∃ n : Int, -9223372036854775808 ≤ n ∧ n ≤ 9223372036854775807 ∧ t = Lib.itoa n
open Classical in
noncomputable def maskB (t : ByteArray) : Bool := decide (MaskP t.data.toList)
def intB (t : ByteArray) : Bool := (NumM.numV t.data.toList).2 && decide (Lib.itoa (NumM.numV t.data.toList).1 = t.data.toList)
def freeB (t : ByteArray) : Bool := LexD.nameB t && decide (builtinV t < 0)
def BOOLS : List ByteArray := [⟨#[116, 114, 117, 101]⟩, ⟨#[102, 97, 108, 115, 101]⟩]
def BINS : List ByteArray := [⟨#[43]⟩, ⟨#[45]⟩, ⟨#[42]⟩, ⟨#[47, 47]⟩, ⟨#[37]⟩, ⟨#[46, 46]⟩, ⟨#[61, 61]⟩, ⟨#[126, 61]⟩, ⟨#[60]⟩, ⟨#[60, 61]⟩, ⟨#[62]⟩, ⟨#[62, 61]⟩]
def UNS : List ByteArray := [⟨#[45]⟩, ⟨#[110, 111, 116]⟩, ⟨#[35]⟩]
def TYS : List ByteArray := [⟨#[97, 110, 121]⟩, ⟨#[110, 105, 108]⟩, ⟨#[98, 111, 111, 108]⟩, ⟨#[105, 110, 116]⟩, ⟨#[115, 116, 114, 105, 110, 103]⟩, ⟨#[116, 97, 98, 108, 101]⟩, ⟨#[116, 104, 114, 101, 97, 100]⟩]
def byteAt (t : ByteArray) (i : Nat) : Nat := (t.data.toList.getD i 0).toNat
noncomputable def chanB (t : ByteArray) : Bool := decide (2 < t.size) && (decide (48 ≤ byteAt t 0) && (decide (byteAt t 0 ≤ 55) && (decide (byteAt t 1 = 32) && maskB (t.extract 2 t.size))))
noncomputable def textB (x : Nd) : Bool :=
  if x.kind = 2 then chanB x.text
  else if x.kind = 4 ∨ x.kind = 5 ∨ x.kind = 17 ∨ x.kind = 23 then freeB x.text
  else if x.kind = 18 ∨ x.kind = 25 ∨ x.kind = 33 then LexD.nameB x.text
  else if x.kind = 14 then memB BOOLS x.text else if x.kind = 15 then intB x.text else if x.kind = 16 then true
  else if x.kind = 21 then decide (0 ≤ builtinV x.text) else if x.kind = 27 then memB BINS x.text else if x.kind = 28 then memB UNS x.text
  else if x.kind = 31 then memB TYS x.text else if x.kind = 36 then maskB x.text else decide (x.text.size = 0)
def ndAt (l : List Nd) (k : Int) : Nd := l.getD k.toNat ⟨0, ⟨#[]⟩, [], 0⟩
def kindAt (l : List Nd) (k : Int) : Int := (ndAt l k).kind
def kindsOf (l : List Nd) (ks : List Int) : List Int := ks.map (kindAt l)
/-- The kind in the end of a base. -/
def rootV (l : List Nd) : Nat → Int → Int
  | 0, n => kindAt l n
  | f + 1, n => if kindAt l n = 18 ∨ kindAt l n = 19 ∨ kindAt l n = 20 then rootV l f ((ndAt l n).kids.getD 0 0) else kindAt l n
def freshB (g : List UInt8 → List UInt8) : List (List UInt8) → List (List UInt8) → Bool
  | _, [] => true
  | S, t :: r => !(S.any fun s => s == g t) && freshB g (S ++ [g t]) r
def unlikeB (g : List UInt8 → List UInt8) (ts : List (List UInt8)) : Bool := freshB g [] ts
def textsOf (l : List Nd) (ks : List Int) : List (List UInt8) := ks.map fun k => (ndAt l k).text.data.toList
def READ : ByteArray := ⟨#[114, 101, 97, 100]⟩
def WRITE : ByteArray := ⟨#[119, 114, 105, 116, 101]⟩
def firstB (l : List Nd) (k : Int) : Bool := decide (kindAt l k = 15) && (decide ((ndAt l k).text.size = 1) && decide (byteAt (ndAt l k).text 0 ≤ 55))
def argsB (l : List Nd) (x : Nd) : Bool := decide ((x.kids.length : Int) = builtinV x.text) && (if memB [READ, WRITE] x.text = true then firstB l (x.kids.getD 0 0) else true)
def lastB (l : List Nd) (ks : List Int) : Bool := (kindsOf l ks.dropLast).all fun k => !(decide (k = 10) || decide (k = 11))
def baseB (l : List Nd) (k : Int) : Bool := let r := rootV l k.toNat k; decide (r = 17) || decide (r = 21)
def restB (l : List Nd) (x : Nd) : Bool :=
  if x.kind = 1 then unlikeB (·.take 1) (textsOf l x.kids.dropLast)
  else if x.kind = 3 then lastB l x.kids else if x.kind = 6 ∨ x.kind = 7 then baseB l (x.kids.getD 0 0)
  else if x.kind = 21 then argsB l x else if x.kind = 32 then unlikeB id (textsOf l x.kids) else true
def takeKids (n : Nat) : List Int → List Bool → Option (List Bool)
  | [], u => some u
  | k :: r, u => if 0 ≤ k ∧ k < (n : Int) ∧ u.getD k.toNat false = false then takeKids n r (u.set k.toNat true) else none
noncomputable def ownB (l : List Nd) (x : Nd) : Bool :=
  decide (1 ≤ x.kind) && (decide (x.kind ≤ 36) && (decide (0 ≤ x.pos) && (fitB (WANT.getD x.kind.toNat []) (kindsOf l x.kids) && (textB x && restB l x))))
noncomputable def stepV (l : List Nd) (i : Nat) (x : Nd) (u : List Bool) : Option (List Bool) :=
  match takeKids i x.kids u with
  | none => none
  | some u' => if ownB l x = true then some u' else none
noncomputable def goV (l : List Nd) : Nat → List Nd → List Bool → Sum Nat (List Bool)
  | _, [], u => .inr u
  | i, x :: r, u => match stepV l i x u with
    | none => .inl i
    | some u' => goV l (i + 1) r u'
/-- What only the whole tells. -/
def wholeB (l : List Nd) (u : List Bool) : Bool :=
  decide (kindAt l ((l.length : Int) - 1) = 1) && (List.range (l.length - 1)).all fun n => u.getD n false && !decide (kindAt l n = 1)
/-- A node that is as said. -/
structure Good (l : List Nd) (i : Nat) (x : Nd) : Prop where
  kids : ∀ k ∈ x.kids, 0 ≤ k ∧ k < (i : Int)
  own : ownB l x = true
def Done (l : List Nd) (n : Nat) : Prop := ∀ (i : Nat) x, i < n → l[i]? = some x → Good l i x
theorem take_len {n : Nat} : ∀ {ks : List Int} {u u' : List Bool}, takeKids n ks u = some u' → u'.length = u.length
  | [], u, u', h => by injection h with h; rw [h]
  | k :: r, u, u', h => by
    unfold takeKids at h
    split at h
    · rw [take_len h]; simp
    · cases h
theorem take_kids {n : Nat} : ∀ {ks : List Int} {u u' : List Bool}, takeKids n ks u = some u' → ∀ k ∈ ks, 0 ≤ k ∧ k < (n : Int)
  | [], _, _, _ => by simp
  | k :: r, u, u', h => by
    unfold takeKids at h
    split at h
    · rename_i hc
      intro x hx
      rcases List.mem_cons.1 hx with rfl | hx
      · exact ⟨hc.1, hc.2.1⟩
      · exact take_kids h x hx
    · cases h
theorem step_good {l : List Nd} {i : Nat} {x : Nd} {u u' : List Bool} (h : stepV l i x u = some u') : Good l i x ∧ takeKids i x.kids u = some u' := by
  unfold stepV at h
  split at h
  · cases h
  · rename_i v hv
    split at h
    · rename_i ho
      injection h with h
      subst h
      exact ⟨⟨take_kids hv, ho⟩, hv⟩
    · cases h
theorem Done.next {l : List Nd} {n : Nat} {x : Nd} (h : Done l n) (hx : l[n]? = some x) (hg : Good l n x) : Done l (n + 1) := by
  intro i y hi hy
  rcases Nat.lt_or_ge i n with h1 | h1
  · exact h i y h1 hy
  · have : i = n := by omega
    subst this
    rw [hx] at hy
    injection hy with hy
    exact hy ▸ hg
theorem go_cons (l : List Nd) (k : Nat) (hk : k < l.length) (u : List Bool) : goV l k (l.drop k) u = match stepV l k l[k] u with
    | none => .inl k
    | some u' => goV l (k + 1) (l.drop (k + 1)) u' := by
  rw [List.drop_eq_getElem_cons hk]
  rfl
end TreeD
end Go.Proofs.YtmdkocegnbcgmaaGreatDoor
namespace Go.Proofs.YtmdkocegnbcgmaaGreatDoor
open Go.RowKit ObjM
namespace TreeD

set_option maxRecDepth 100000 in
theorem expression_any (k : Int) (w : World) : Calls Tryz.prog 129 #[.int .i64 k] w fun e w' => e = .returned (.bool (exprB k)) ∧ w = w' := by
  by_cases h1 : (13 : Int) ≤ k <;> by_cases h2 : k ≤ 22 <;> by_cases h3 : k = 24 <;> by_cases h4 : (27 : Int) ≤ k <;> by_cases h5 : k ≤ 30
  all_goals try (exfalso; omega)
  all_goals
    try subst h3
    go_enter Tryz.func129, Tryz.ntmps129
    go_wp2
    go_ret
    exact ⟨by first | (simp [exprB, *]; done) | (simp [exprB, *]; rw [Bool.eq_iff_iff]; simp; omega), rfl⟩
set_option maxRecDepth 100000 in
theorem written_any (k : Int) (w : World) : Calls Tryz.prog 130 #[.int .i64 k] w fun e w' => e = .returned (.bool (typeB k)) ∧ w = w' := by
  by_cases h1 : (31 : Int) ≤ k <;> by_cases h2 : k ≤ 35 <;> by_cases h3 : k = 33
  all_goals try (exfalso; omega)
  all_goals
    try subst h3
    go_enter Tryz.func130, Tryz.ntmps130
    go_wp2
    go_ret
    exact ⟨by first | (simp [typeB, *]; done) | (simp [typeB, *]; rw [Bool.eq_iff_iff]; simp; omega), rfl⟩
set_option maxRecDepth 100000 in
theorem kf99 (k : Int) (w : World) : Calls Tryz.prog 104 #[.int .i32 99, .int .i64 k] w fun e w' => e = .returned (.bool (kidB 99 k)) ∧ w = w' := by
  have hs : kidB 99 k = (decide (k = 2)) := rfl
  rw [hs]
  clear hs
  by_cases h0 : k = 2
  all_goals
    try subst h0
    go_enter Tryz.func104, Tryz.ntmps104
    go_wp2
    go_ret
    exact ⟨by simp [*], rfl⟩
set_option maxRecDepth 100000 in
theorem kf98 (k : Int) (w : World) : Calls Tryz.prog 104 #[.int .i32 98, .int .i64 k] w fun e w' => e = .returned (.bool (kidB 98 k)) ∧ w = w' := by
  have hs : kidB 98 k = (decide (k = 3)) := rfl
  rw [hs]
  clear hs
  by_cases h0 : k = 3
  all_goals
    try subst h0
    go_enter Tryz.func104, Tryz.ntmps104
    go_wp2
    go_ret
    exact ⟨by simp [*], rfl⟩
set_option maxRecDepth 100000 in
theorem kf66 (k : Int) (w : World) : Calls Tryz.prog 104 #[.int .i32 66, .int .i64 k] w fun e w' => e = .returned (.bool (kidB 66 k)) ∧ w = w' := by
  have hs : kidB 66 k = (decide (k = 3) || decide (k = 12)) := rfl
  rw [hs]
  clear hs
  by_cases h0 : k = 3 <;> by_cases h1 : k = 12
  all_goals try (exfalso; omega)
  all_goals
    try subst h0
    try subst h1
    go_enter Tryz.func104, Tryz.ntmps104
    go_wp2
    go_ret
    exact ⟨by simp [*], rfl⟩
set_option maxRecDepth 100000 in
theorem kf115 (k : Int) (w : World) : Calls Tryz.prog 104 #[.int .i32 115, .int .i64 k] w fun e w' => e = .returned (.bool (kidB 115 k)) ∧ w = w' := by
  have hs : kidB 115 k = (statB k) := rfl
  rw [hs]
  clear hs
  by_cases g1 : (4 : Int) ≤ k <;> by_cases g2 : k ≤ 11
  all_goals try (exfalso; omega)
  all_goals
    go_enter Tryz.func104, Tryz.ntmps104
    go_wp2
    go_ret
    exact ⟨by first | (simp [statB, *]; done) | (simp [statB, *]; rw [Bool.eq_iff_iff]; simp; omega), rfl⟩
set_option maxRecDepth 100000 in
theorem kf101 (k : Int) (w : World) : Calls Tryz.prog 104 #[.int .i32 101, .int .i64 k] w fun e w' => e = .returned (.bool (kidB 101 k)) ∧ w = w' := by
  have hs : kidB 101 k = (exprB k) := rfl
  rw [hs]
  clear hs
  have H := fun W => Lib.hid (expression_any k W)
  obtain ⟨b, hb⟩ : ∃ b, exprB k = b := ⟨_, rfl⟩
  rw [hb] at H ⊢
  clear hb
  all_goals
    cases b
  all_goals
    go_enter Tryz.func104, Tryz.ntmps104
    go_wp2_with fail
    refine ((H _).out).mono ?_
    rintro e w1 ⟨rfl, rfl⟩
    go_wp2
    go_ret
    exact ⟨by simp [*], rfl⟩
set_option maxRecDepth 100000 in
theorem kf69 (k : Int) (w : World) : Calls Tryz.prog 104 #[.int .i32 69, .int .i64 k] w fun e w' => e = .returned (.bool (kidB 69 k)) ∧ w = w' := by
  have hs : kidB 69 k = (exprB k || decide (k = 12)) := rfl
  rw [hs]
  clear hs
  have H := fun W => Lib.hid (expression_any k W)
  obtain ⟨b, hb⟩ : ∃ b, exprB k = b := ⟨_, rfl⟩
  rw [hb] at H ⊢
  clear hb
  by_cases h0 : k = 12
  all_goals
    cases b
  all_goals
    try subst h0
    go_enter Tryz.func104, Tryz.ntmps104
    go_wp2_with fail
    refine ((H _).out).mono ?_
    rintro e w1 ⟨rfl, rfl⟩
    go_wp2
    go_ret
    exact ⟨by simp [*], rfl⟩
set_option maxRecDepth 100000 in
theorem kf116 (k : Int) (w : World) : Calls Tryz.prog 104 #[.int .i32 116, .int .i64 k] w fun e w' => e = .returned (.bool (kidB 116 k)) ∧ w = w' := by
  have hs : kidB 116 k = (typeB k) := rfl
  rw [hs]
  clear hs
  have H := fun W => Lib.hid (written_any k W)
  obtain ⟨b, hb⟩ : ∃ b, typeB k = b := ⟨_, rfl⟩
  rw [hb] at H ⊢
  clear hb
  all_goals
    cases b
  all_goals
    go_enter Tryz.func104, Tryz.ntmps104
    go_wp2_with fail
    refine ((H _).out).mono ?_
    rintro e w1 ⟨rfl, rfl⟩
    go_wp2
    go_ret
    exact ⟨by simp [*], rfl⟩
set_option maxRecDepth 100000 in
theorem kf84 (k : Int) (w : World) : Calls Tryz.prog 104 #[.int .i32 84, .int .i64 k] w fun e w' => e = .returned (.bool (kidB 84 k)) ∧ w = w' := by
  have hs : kidB 84 k = (typeB k || decide (k = 12)) := rfl
  rw [hs]
  clear hs
  have H := fun W => Lib.hid (written_any k W)
  obtain ⟨b, hb⟩ : ∃ b, typeB k = b := ⟨_, rfl⟩
  rw [hb] at H ⊢
  clear hb
  by_cases h0 : k = 12
  all_goals
    cases b
  all_goals
    try subst h0
    go_enter Tryz.func104, Tryz.ntmps104
    go_wp2_with fail
    refine ((H _).out).mono ?_
    rintro e w1 ⟨rfl, rfl⟩
    go_wp2
    go_ret
    exact ⟨by simp [*], rfl⟩
set_option maxRecDepth 100000 in
theorem kf76 (k : Int) (w : World) : Calls Tryz.prog 104 #[.int .i32 76, .int .i64 k] w fun e w' => e = .returned (.bool (kidB 76 k)) ∧ w = w' := by
  have hs : kidB 76 k = (typeB k || decide (k = 12) || decide (k = 36)) := rfl
  rw [hs]
  clear hs
  have H := fun W => Lib.hid (written_any k W)
  obtain ⟨b, hb⟩ : ∃ b, typeB k = b := ⟨_, rfl⟩
  rw [hb] at H ⊢
  clear hb
  by_cases h0 : k = 12 <;> by_cases h1 : k = 36
  all_goals try (exfalso; omega)
  all_goals
    cases b
  all_goals
    try subst h0
    try subst h1
    go_enter Tryz.func104, Tryz.ntmps104
    go_wp2_with fail
    refine ((H _).out).mono ?_
    rintro e w1 ⟨rfl, rfl⟩
    go_wp2
    go_ret
    exact ⟨by simp [*], rfl⟩
set_option maxRecDepth 100000 in
theorem kf97 (k : Int) (w : World) : Calls Tryz.prog 104 #[.int .i32 97, .int .i64 k] w fun e w' => e = .returned (.bool (kidB 97 k)) ∧ w = w' := by
  have hs : kidB 97 k = (decide (k = 17) || decide (k = 18) || decide (k = 19)) := rfl
  rw [hs]
  clear hs
  by_cases h0 : k = 17 <;> by_cases h1 : k = 18 <;> by_cases h2 : k = 19
  all_goals try (exfalso; omega)
  all_goals
    try subst h0
    try subst h1
    try subst h2
    go_enter Tryz.func104, Tryz.ntmps104
    go_wp2
    go_ret
    exact ⟨by simp [*], rfl⟩
set_option maxRecDepth 100000 in
theorem kf107 (k : Int) (w : World) : Calls Tryz.prog 104 #[.int .i32 107, .int .i64 k] w fun e w' => e = .returned (.bool (kidB 107 k)) ∧ w = w' := by
  have hs : kidB 107 k = (decide (k = 20) || decide (k = 21)) := rfl
  rw [hs]
  clear hs
  by_cases h0 : k = 20 <;> by_cases h1 : k = 21
  all_goals try (exfalso; omega)
  all_goals
    try subst h0
    try subst h1
    go_enter Tryz.func104, Tryz.ntmps104
    go_wp2
    go_ret
    exact ⟨by simp [*], rfl⟩
set_option maxRecDepth 100000 in
theorem kf70 (k : Int) (w : World) : Calls Tryz.prog 104 #[.int .i32 70, .int .i64 k] w fun e w' => e = .returned (.bool (kidB 70 k)) ∧ w = w' := by
  have hs : kidB 70 k = (decide (k = 22)) := rfl
  rw [hs]
  clear hs
  by_cases h0 : k = 22
  all_goals
    try subst h0
    go_enter Tryz.func104, Tryz.ntmps104
    go_wp2
    go_ret
    exact ⟨by simp [*], rfl⟩
set_option maxRecDepth 100000 in
theorem kf112 (k : Int) (w : World) : Calls Tryz.prog 104 #[.int .i32 112, .int .i64 k] w fun e w' => e = .returned (.bool (kidB 112 k)) ∧ w = w' := by
  have hs : kidB 112 k = (decide (k = 23)) := rfl
  rw [hs]
  clear hs
  by_cases h0 : k = 23
  all_goals
    try subst h0
    go_enter Tryz.func104, Tryz.ntmps104
    go_wp2
    go_ret
    exact ⟨by simp [*], rfl⟩
set_option maxRecDepth 100000 in
theorem kf110 (k : Int) (w : World) : Calls Tryz.prog 104 #[.int .i32 110, .int .i64 k] w fun e w' => e = .returned (.bool (kidB 110 k)) ∧ w = w' := by
  have hs : kidB 110 k = (decide (k = 25) || decide (k = 26)) := rfl
  rw [hs]
  clear hs
  by_cases h0 : k = 25 <;> by_cases h1 : k = 26
  all_goals try (exfalso; omega)
  all_goals
    try subst h0
    try subst h1
    go_enter Tryz.func104, Tryz.ntmps104
    go_wp2
    go_ret
    exact ⟨by simp [*], rfl⟩
set_option maxRecDepth 100000 in
theorem kf102 (k : Int) (w : World) : Calls Tryz.prog 104 #[.int .i32 102, .int .i64 k] w fun e w' => e = .returned (.bool (kidB 102 k)) ∧ w = w' := by
  have hs : kidB 102 k = (decide (k = 33)) := rfl
  rw [hs]
  clear hs
  by_cases h0 : k = 33
  all_goals
    try subst h0
    go_enter Tryz.func104, Tryz.ntmps104
    go_wp2
    go_ret
    exact ⟨by simp [*], rfl⟩
set_option maxRecDepth 100000 in
theorem kf109 (k : Int) (w : World) : Calls Tryz.prog 104 #[.int .i32 109, .int .i64 k] w fun e w' => e = .returned (.bool (kidB 109 k)) ∧ w = w' := by
  have hs : kidB 109 k = (decide (k = 31) || decide (k = 32)) := rfl
  rw [hs]
  clear hs
  by_cases h0 : k = 31 <;> by_cases h1 : k = 32
  all_goals try (exfalso; omega)
  all_goals
    try subst h0
    try subst h1
    go_enter Tryz.func104, Tryz.ntmps104
    go_wp2
    go_ret
    exact ⟨by simp [*], rfl⟩
def LETS : List Nat := [99, 98, 66, 115, 101, 69, 116, 84, 76, 97, 107, 70, 112, 110, 102, 109]
theorem kidFits_any (c : Nat) (hc : c ∈ LETS) (k : Int) (w : World) : Calls Tryz.prog 104 #[.int .i32 (c : Int), .int .i64 k] w fun e w' => e = .returned (.bool (kidB c k)) ∧ w = w' := by
  simp only [LETS, List.mem_cons, List.not_mem_nil, or_false] at hc
  rcases hc with rfl | rfl | rfl | rfl | rfl | rfl | rfl | rfl | rfl | rfl | rfl | rfl | rfl | rfl | rfl | rfl
  · exact kf99 k w
  · exact kf98 k w
  · exact kf66 k w
  · exact kf115 k w
  · exact kf101 k w
  · exact kf69 k w
  · exact kf116 k w
  · exact kf84 k w
  · exact kf76 k w
  · exact kf97 k w
  · exact kf107 k w
  · exact kf70 k w
  · exact kf112 k w
  · exact kf110 k w
  · exact kf102 k w
  · exact kf109 k w
end TreeD
end Go.Proofs.YtmdkocegnbcgmaaGreatDoor
