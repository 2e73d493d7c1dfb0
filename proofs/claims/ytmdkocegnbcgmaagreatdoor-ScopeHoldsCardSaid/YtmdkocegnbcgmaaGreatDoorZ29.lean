/- The document's parser on short texts: what it comes to (a part of the language: where it says none, nothing is said). -/
import Derived.Test.YtmdkocegnbcgmaaGreatDoorZ6
import Derived.Test.YtmdkocegnbcgmaaGreatDoorZ28
import Derived.Lib.ItoaNum
namespace Go.Proofs.YtmdkocegnbcgmaaGreatDoor
open Go.RowKit ObjM
namespace ParD
open TreeD (Nd builtinV)
open LexD (Tok)

/-- How far, what was made, how many are open. -/
structure PS where
  i : Nat
  l : List Nd
  opn : Nat
def wLocal : ByteArray := ⟨#[108, 111, 99, 97, 108]⟩
def wFunction : ByteArray := ⟨#[102, 117, 110, 99, 116, 105, 111, 110]⟩
def wIf : ByteArray := ⟨#[105, 102]⟩
def wWhile : ByteArray := ⟨#[119, 104, 105, 108, 101]⟩
def wReturn : ByteArray := ⟨#[114, 101, 116, 117, 114, 110]⟩
def wBreak : ByteArray := ⟨#[98, 114, 101, 97, 107]⟩
def wEnd : ByteArray := ⟨#[101, 110, 100]⟩
def wElse : ByteArray := ⟨#[101, 108, 115, 101]⟩
def wElseif : ByteArray := ⟨#[101, 108, 115, 101, 105, 102]⟩
def wThen : ByteArray := ⟨#[116, 104, 101, 110]⟩
def wChannel : ByteArray := ⟨#[99, 104, 97, 110, 110, 101, 108]⟩
def wNil : ByteArray := ⟨#[110, 105, 108]⟩
def wTrue : ByteArray := ⟨#[116, 114, 117, 101]⟩
def wFalse : ByteArray := ⟨#[102, 97, 108, 115, 101]⟩
def wNot : ByteArray := ⟨#[110, 111, 116]⟩
def wOr : ByteArray := ⟨#[111, 114]⟩
def wAnd : ByteArray := ⟨#[97, 110, 100]⟩
def wInt : ByteArray := ⟨#[105, 110, 116]⟩
def sMinus : ByteArray := ⟨#[45]⟩
def sHash : ByteArray := ⟨#[35]⟩
def sEq : ByteArray := ⟨#[61]⟩
def sColon : ByteArray := ⟨#[58]⟩
def sAt : ByteArray := ⟨#[64]⟩
def sOpen : ByteArray := ⟨#[40]⟩
def sShut : ByteArray := ⟨#[41]⟩
def sBar : ByteArray := ⟨#[124]⟩
def sDot : ByteArray := ⟨#[46]⟩
def sSq : ByteArray := ⟨#[91]⟩
def sBrace : ByteArray := ⟨#[123]⟩
def sPlus : ByteArray := ⟨#[43]⟩
def sStar : ByteArray := ⟨#[42]⟩
def sSlash : ByteArray := ⟨#[47, 47]⟩
def sRest : ByteArray := ⟨#[37]⟩
def sCat : ByteArray := ⟨#[46, 46]⟩
def sSame : ByteArray := ⟨#[61, 61]⟩
def sOther : ByteArray := ⟨#[126, 61]⟩
def sLess : ByteArray := ⟨#[60]⟩
def sLessEq : ByteArray := ⟨#[60, 61]⟩
def sMore : ByteArray := ⟨#[62]⟩
def sMoreEq : ByteArray := ⟨#[62, 61]⟩
def eqB (a b : ByteArray) : Bool := a.data.toList == b.data.toList
theorem eqB_iff {a b : ByteArray} : eqB a b = true ↔ a = b := by
  unfold eqB
  rw [beq_iff_eq]
  constructor
  · intro h
    cases a; cases b
    congr 1
    exact Array.ext' h
  · intro h
    rw [h]
section
variable (T : List Tok)
def cur (st : PS) : Tok := T.getD st.i ⟨0, ⟨#[]⟩, 0, 0, 0⟩
def adv (st : PS) : Option PS := if st.i + 1 < T.length then some { st with i := st.i + 1 } else none
def isP (s : ByteArray) (st : PS) : Bool := ((cur T st).kind == 2 || (cur T st).kind == 5) && eqB (cur T st).text s
def needP (s : ByteArray) (st : PS) : Option (Int × PS) := if isP T s st = true then (adv T st).map fun st' => ((cur T st).lo, st') else none
def takeP (s : ByteArray) (st : PS) : Option (Bool × PS) := if isP T s st = true then (adv T st).map fun st' => (true, st') else some (false, st)
def kindP (k : Int) (st : PS) : Option (Tok × PS) := if (cur T st).kind = k then (adv T st).map fun st' => (cur T st, st') else none
def varP (st : PS) : Option (Tok × PS) := (kindP T 1 st).bind fun r => if 0 ≤ builtinV r.1.text then none else some r
def nodeP (k : Int) (s : ByteArray) (pos : Int) (kids : List Int) (st : PS) : Option (Int × PS) :=
  if st.l.length < 1000 then some ((st.l.length : Int), { st with l := st.l ++ [⟨k, s, kids, pos⟩] }) else none
def noneP (st : PS) : Option (Int × PS) := nodeP 12 ⟨#[]⟩ 0 [] st
def deepP (st : PS) : Option PS := if st.opn < 150 then some { st with opn := st.opn + 1 } else none
def shutP (st : PS) : Option PS := if 0 < st.opn then some { st with opn := st.opn - 1 } else none
def endsP (st : PS) : Bool := (cur T st).kind == 0 || isP T wEnd st || isP T wElse st || isP T wElseif st
def rankB (s : ByteArray) : Int :=
  if eqB s wOr then 1 else if eqB s wAnd then 2
  else if eqB s sSame || eqB s sOther || eqB s sLess || eqB s sLessEq || eqB s sMore || eqB s sMoreEq then 3
  else if eqB s sCat then 4 else if eqB s sPlus || eqB s sMinus then 5 else if eqB s sStar || eqB s sSlash || eqB s sRest then 6 else 0
def rankP (st : PS) : Int := if (cur T st).kind ≠ 5 ∧ (cur T st).kind ≠ 2 then 0 else rankB (cur T st).text
def numP (st : PS) : Option (Int × PS) := if (cur T st).n < 0 then none else (adv T st).bind fun st' => nodeP 15 ⟨(Lib.itoa (cur T st).n).toArray⟩ (cur T st).lo [] st'
def oneP (st : PS) : Option (Int × PS) :=
  if isP T wNil st = true then none else if isP T sBrace st = true then none
  else (kindP T 1 st).bind fun r => if eqB r.1.text wInt = true then nodeP 31 r.1.text r.1.lo [] r.2 else none
def kindOfP (st : PS) : Option (Int × PS) :=
  if isP T sOpen st = true then none else (oneP T st).bind fun r => if isP T sBar r.2 = true then none else some r
def typedP (st : PS) : Option (Int × PS) :=
  (takeP T sColon st).bind fun r => if r.1 = true then (kindOfP T r.2).bind fun q => if isP T sAt q.2 = true then none else some q else noneP r.2
/-- What calls itself. -/
structure Fns where
  chain : Nat → PS → Option (Int × PS)
  unary : PS → Option (Int × PS)
  suffixed : PS → Option (Int × PS)
  prim : PS → Option (Int × PS)
  block : PS → Option (Int × PS)
  last : PS → Option (Int × PS)
  stat : PS → Option (Int × PS)
  function : Int → PS → Option (Int × PS)
  cond : Int → PS → Option (Int × PS)
  body : Int → PS → Option (Int × PS)
def noFns : Fns := ⟨fun _ _ => none, fun _ => none, fun _ => none, fun _ => none, fun _ => none, fun _ => none, fun _ => none, fun _ _ => none, fun _ _ => none, fun _ _ => none⟩
def chainL (F : Fns) (r : Nat) : Nat → Int → PS → Option (Int × PS)
  | 0, _, _ => none
  | m + 1, x, st =>
    if rankP T st = r then
      (adv T st).bind fun st1 => (F.chain (r + 1) st1).bind fun q =>
        if eqB (cur T st).text wOr = true ∨ eqB (cur T st).text wAnd = true then none
        else (nodeP 27 (cur T st).text (cur T st).lo [x, q.1] q.2).bind fun z => chainL F r m z.1 z.2
    else some (x, st)
def blockL (F : Fns) : Nat → List Int → PS → Option (List Int × PS)
  | 0, _, _ => none
  | m + 1, kids, st =>
    if endsP T st = true then some (kids, st)
    else if isP T wReturn st = true ∨ isP T wBreak st = true then (F.last st).map fun r => (kids ++ [r.1], r.2)
    else (F.stat st).bind fun r => blockL F m (kids ++ [r.1]) r.2
def stepF (F : Fns) : Fns where
  chain r st := if 6 < r then F.unary st else (F.chain (r + 1) st).bind fun q => chainL T F r 50 q.1 q.2
  unary st := if isP T wNot st = true ∨ isP T sMinus st = true ∨ isP T sHash st = true then none else F.suffixed st
  suffixed st := (F.prim st).bind fun r => if isP T sDot r.2 = true ∨ isP T sSq r.2 = true ∨ isP T sOpen r.2 = true then none else some r
  prim st :=
    if (cur T st).kind = 3 then numP T st
    else if (cur T st).kind = 4 then none
    else if (cur T st).kind = 1 then (adv T st).bind fun st1 => if 0 ≤ builtinV (cur T st).text then none else nodeP 17 (cur T st).text (cur T st).lo [] st1
    else if isP T wNil st = true then (adv T st).bind fun st1 => nodeP 13 ⟨#[]⟩ (cur T st).lo [] st1
    else none
  block st := (blockL T F 50 [] st).bind fun r => nodeP 3 ⟨#[]⟩ (cur T st).lo r.1 r.2
  last st :=
    if isP T wBreak st = true then none
    else (needP T wReturn st).bind fun r => (if endsP T r.2 = true then noneP r.2 else F.chain 1 r.2).bind fun q => nodeP 10 ⟨#[]⟩ (cur T st).lo [q.1] q.2
  stat st :=
    if isP T wLocal st = true then
      (adv T st).bind fun s1 => (varP T s1).bind fun v => (typedP T v.2).bind fun d => (takeP T sEq d.2).bind fun q => (if q.1 = true then F.chain 1 q.2 else noneP q.2).bind fun e => nodeP 4 v.1.text (cur T st).lo [d.1, e.1] e.2
    else if isP T wFunction st = true then F.function (cur T st).lo st
    else if isP T wIf st = true then (needP T wIf st).bind fun r => F.cond (cur T st).lo r.2
    else none
  function at_ st := (needP T wFunction st).bind fun r => (varP T r.2).bind fun v => (F.body at_ v.2).bind fun b => nodeP 5 v.1.text at_ [b.1] b.2
  cond at_ st :=
    (deepP st).bind fun s1 => (F.chain 1 s1).bind fun e => (needP T wThen e.2).bind fun t => (F.block t.2).bind fun b =>
      if isP T wElseif b.2 = true ∨ isP T wElse b.2 = true then none
      else (noneP b.2).bind fun c => (needP T wEnd c.2).bind fun z => (shutP z.2).bind fun s9 => nodeP 8 ⟨#[]⟩ at_ [e.1, b.1, c.1] s9
  body at_ st :=
    (deepP st).bind fun s1 => (needP T sOpen s1).bind fun o =>
      if isP T sShut o.2 = true then
        (needP T sShut o.2).bind fun c => if isP T sColon c.2 = true then none else (noneP c.2).bind fun t => (F.block t.2).bind fun b => (needP T wEnd b.2).bind fun z => (shutP z.2).bind fun s9 => nodeP 22 ⟨#[]⟩ at_ [t.1, b.1] s9
      else none
def F : Nat → Fns
  | 0 => noFns
  | n + 1 => stepF T (F n)
/-- A whole program: its nodes. -/
def progP (n : Nat) : Option (List Nd) :=
  if isP T wChannel ⟨0, [], 0⟩ = true then none
  else ((F T n).block ⟨0, [], 0⟩).bind fun b => if (cur T b.2).kind = 0 then (nodeP 1 ⟨#[]⟩ 0 [b.1] b.2).map fun r => r.2.l else none
end
/-- A token's cells. -/
def TkC (W : World) (b i : Nat) (t : Tok) : Prop :=
  W.cell? ⟨b, i * 5, none⟩ = some (.int .i64 t.kind) ∧ W.cell? ⟨b, i * 5 + 1, none⟩ = some (.string t.text) ∧ W.cell? ⟨b, i * 5 + 2, none⟩ = some (.int .i64 t.lo) ∧ W.cell? ⟨b, i * 5 + 3, none⟩ = some (.int .i64 t.hi) ∧ W.cell? ⟨b, i * 5 + 4, none⟩ = some (.int .i64 t.n)
end ParD
end Go.Proofs.YtmdkocegnbcgmaaGreatDoor
