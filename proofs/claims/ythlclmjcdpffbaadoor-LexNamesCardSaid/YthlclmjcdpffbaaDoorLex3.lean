/- Putting a token down. -/
import Derived.Test.YthlclmjcdpffbaaDoorLexM
namespace Go.Proofs.YthlclmjcdpffbaaDoor
open Go.RowKit ObjM Go.Maps
namespace LexD

theorem WordsOk.keepsT {ts : List TypeId} {w w' : World} {m n : Nat} (h : WordsOk w m n) (k : KeepsT ts w w') : WordsOk w' m n :=
  h.block (k.block m h.lt (fun cs t fr hc => by
    obtain ⟨D, ⟨es, cl, hb, _⟩, _⟩ := h
    rw [hc] at hb
    cases hb))
def ScTs : List TypeId := [64, 36]
/-- The scanner stands so, and only it and its tokens were turned. -/
def Moved (w : World) (B P m : Nat) (s : ByteArray) (at_ : Int) (ts : List Tok) (w' : World) : Prop := ∃ tv, ScAt w' B P m s at_ ts tv ∧ KeepsT ScTs w w' ∧ Below B w w'
def PutIs (w : World) (B P m : Nat) (s : ByteArray) (at_ : Int) (ts : List Tok) (e : Ending) (w' : World) : Prop := e = .returned (.tuple #[]) ∧ Moved w B P m s at_ ts w'
theorem infoTok : (Tryd.prog.info? 36).map (fun i => (i.zero, i.size, i.bytes)) = some (some (.agg #[.int .i64 0, .string ⟨#[]⟩, .int .i64 0, .int .i64 0, .int .i64 0]), 5, 48) := by kernel_rfl
set_option maxRecDepth 100000 in
set_option maxHeartbeats 2000000 in
theorem put_any (B P m : Nat) (s : ByteArray) (at_ : Int) (ts : List Tok) (tv : Value) (kind to n : Int) (text : ByteArray) (hn : ts.length ≤ 1000000) (w : World) (hBw : B ≤ w.heap.size) (h : ScAt w B P m s at_ ts tv) :
    Calls Tryd.prog 41 #[.pointer (some ⟨P, 0, none⟩), .int .i64 kind, .string text, .int .i64 to, .int .i64 n] w (PutIs w B P m s to (ts ++ [⟨kind, text, at_, to, n⟩])) := by
  obtain ⟨i0, hi, hz0, hz1, hz2⟩ := info_parts infoTok
  have hP := h.obj.lt
  have h1 := h.obj.cell 1
  have h3 := h.obj.cell 3
  have hf := h.obj.frozen 3
  simp at h1 h3
  have hnew := (Has.new w 36 [.int .i64 kind, .string text, .int .i64 at_, .int .i64 to, .int .i64 n]).drew
  have hown1 : ((w.alloc (.cells #[.int .i64 kind, .string text, .int .i64 at_, .int .i64 to, .int .i64 n] 36)).drew).ownsRow B 36 5 tv ts.length (rowT ts) := (h.row.alloc _).drew
  obtain ⟨v', w1, hrun, hown', hgrow, -⟩ := run_append_own (P := Tryd.prog) (w := (w.alloc (.cells #[.int .i64 kind, .string text, .int .i64 at_, .int .i64 to, .int .i64 n] 36)).drew) B 23 23 36 i0 (.agg #[.int .i64 0, .string ⟨#[]⟩, .int .i64 0, .int .i64 0, .int .i64 0]) 5 48 Tryd.underlying23 hi hz0 hz1 hz2 rfl (by decide) tv ts.length (rowT ts) hown1 ⟨w.heap.size, 0, none⟩ 1 1 [.int .i64 kind, .string text, .int .i64 at_, .int .i64 to, .int .i64 n] rfl (by
    intro k u hu
    have e : (⟨w.heap.size, 0, none⟩ : Addr).add k = ⟨w.heap.size, k, none⟩ := by
      unfold Addr.add
      split
      · rename_i h; subst h; rfl
      · simp
    rw [e, hnew.cell]
    exact hu) (by simp [Value.oneCell']) (by unfold maxLen; omega) (by omega) (by simp; omega)
  obtain ⟨g', cap', rfl⟩ := ownsRow_succ hown'
  have hk1 : KeepsT [36] w w1 := (((KeepsT.refl _ w).alloc _).drew).grown hgrow (fun g hg => .inr (by
    obtain ⟨cs, hc⟩ := own_row hown1 g hg
    exact ⟨_, cs, hc, by simp⟩))
  have hb1 : Below B w w1 := (((Below.refl B w).alloc (by omega) _).drew).grown hgrow (by simp; omega) (fun g hg => (own_lt hown1 g hg).1)
  have hG1 : Has w1 P 64 [.string s, .int .i64 at_, .map (some m), tv] := h.obj.keepsT hk1 (by decide)
  have hc3 := hG1.cell 3
  have hf3 := hG1.frozen 3
  have hlt1 := hG1.lt
  have hG2 := hG1.set 3 (.slice (some ⟨g', 0, none⟩) (ts.length + 1) cap')
  have hf4 := hG1.frozen 1
  have hc1 := hG1.cell 1
  simp at hc3 hc1
  have HEnd : Hid (PutIs w B P m s to (ts ++ [⟨kind, text, at_, to, n⟩]) (.returned (.tuple #[])) ((w1.setCell ⟨P, 3, none⟩ (.slice (some ⟨g', 0, none⟩) (ts.length + 1) cap')).setCell ⟨P, 1, none⟩ (.int .i64 to))) := Lib.hid (by
    have kk : Keeps [P] w1 ((w1.setCell ⟨P, 3, none⟩ (.slice (some ⟨g', 0, none⟩) (ts.length + 1) cap')).setCell ⟨P, 1, none⟩ (.int .i64 to)) := (Keeps.set w1 P 3 _).trans (Keeps.set _ P 1 _) (by simp)
    have kt : KeepsT ScTs w ((w1.setCell ⟨P, 3, none⟩ (.slice (some ⟨g', 0, none⟩) (ts.length + 1) cap')).setCell ⟨P, 1, none⟩ (.int .i64 to)) := ((hk1.mono (by simp [ScTs])).set hG1 (.inl (by simp [ScTs])) 3 _).set hG2 (.inl (by simp [ScTs])) 1 _
    refine ⟨rfl, _, ⟨hG2.set 1 _, ?_, h.words.keepsT kt, h.ge, h.gem⟩, kt, (hb1.setCell (p := ⟨P, 3, none⟩) h.ge _).setCell (p := ⟨P, 1, none⟩) h.ge _⟩
    rw [rowT_snoc, List.length_append]
    exact own_keeps hown' kk (fun g hg => by
      have := own_ne hown' hG1 (by decide) g hg
      simpa using this))
  clear hgrow hown' hown1 hk1 hb1 hG1 hG2 hnew h
  go_enter Tryd.func41, Tryd.ntmps41
  go_wp2
  go_region_law (refine step_append_own rfl (.tmp 14) (.tmp 24) 23 rfl _ _ _ _ rfl rfl hrun ?_)
  all_goals
    go_wp2
    go_end0
    exact HEnd.out
end LexD
end Go.Proofs.YthlclmjcdpffbaaDoor
