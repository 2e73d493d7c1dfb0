/- A call on both tables. -/
import Derived.Test.YtpmbbkhhnkhcbaaTab34
namespace Go.Proofs.Ytpmbbkhhnkhcbaa
open Go.RowKit ObjM Go.Maps
namespace TabD
open LabelM LabelD ValD

theorem rs_keepsT {w w1 : World} {B T R lab N : Nat} {fs : List Fd} {ss : List St} {fv : Value} {pm : Option Nat} {sv : Value} {nm : Option Nat} {gv rv : Value} (h1 : IsTS w B T lab fs fv pm sv nm N ss) (h2 : IsRS w B R lab fs gv rv ss) (k : Keeps (T :: nm.toList) w w1) : IsRS w1 B R lab fs gv rv ss := by
  have hnm : ∀ b, nm = some b → ∀ t cs, ¬ Has w b t cs := fun b hb t cs hc => by
    subst hb
    exact h1.2.1.2.1.ne hc rfl
  refine h2.keeps k (fun hm => ?_) (fun b hb hm => ?_) (fun b hb hm => ?_)
  · rcases List.mem_cons.1 hm with h9 | hm
    · subst h9
      exact h2.1.1.ne h1.1.1 (by decide) rfl
    · exact hnm R (by simpa using hm) _ _ h2.1.1
  · obtain ⟨cs, hc⟩ := own_row h2.1.2.1 b hb
    rcases List.mem_cons.1 hm with h9 | hm
    · subst h9
      exact hc.ne h1.1.1 (by decide) rfl
    · exact hnm b (by simpa using hm) _ _ hc
  · obtain ⟨cs, hc⟩ := own_row h2.2.1 b hb
    rcases List.mem_cons.1 hm with h9 | hm
    · subst h9
      exact hc.ne h1.1.1 (by decide) rfl
    · exact hnm b (by simpa using hm) _ _ hc
theorem ts_keepsR {w w1 : World} {B T R lab N : Nat} {fs : List Fd} {ss : List St} {fv : Value} {pm : Option Nat} {sv : Value} {nm : Option Nat} {rc : List Value} (h1 : IsTS w B T lab fs fv pm sv nm N ss) (hR : Has w R 33 rc) (k : Keeps [R] w w1) : IsTS w1 B T lab fs fv pm sv nm N ss := by
  refine h1.keeps k (fun x hx hm => ?_) (fun x hx hm => ?_) (fun x hx hm => ?_)
  · have h9 : x = R := by simpa using hm
    subst h9
    rcases List.mem_cons.1 hx with h8 | hx
    · subst h8
      exact hR.ne h1.1.1 (by decide) rfl
    · rcases List.mem_append.1 hx with hx | hx
      · obtain ⟨cs, hc⟩ := own_row h1.1.2.1 x (by simpa using hx)
        exact hc.ne hR (by decide) rfl
      · have e : pm = some x := by simpa using hx
        have hp := h1.1.2.2.1
        rw [e] at hp
        exact hp.ne hR rfl
  · have h9 : x = R := by simpa using hm
    subst h9
    have hp := h1.2.1.2.1
    rw [hx] at hp
    exact hp.ne hR rfl
  · have h9 : x = R := by simpa using hm
    subst h9
    obtain ⟨cs, hc⟩ := own_row h1.2.1.1 x hx
    exact hc.ne hR (by decide) rfl
/-- A Stamp on both. -/
theorem both_stamp {w w1 w2 : World} {B T R lab N : Nat} {fs : List Fd} {ss l : List St} {e1 e2 : Ending} {fv : Value} {pm : Option Nat} {sv : Value} {nm : Option Nat} {gv rv : Value} {O : List Nat}
    (h1 : IsTS w B T lab fs fv pm sv nm N ss) (h2 : IsRS w B R lab fs gv rv ss) (h3 : ∀ x, fv.ownBlock = some x → gv.ownBlock ≠ some x) (h4 : B ≤ R) (h5 : ND ss) (hl : fs.length ≤ N) (hN : N + l.length ≤ 100000) (hO : O = tblk T fv pm ++ (nm.toList ++ R :: gv.ownBlock.toList)) (hB : B ≤ w.heap.size) (hst : ∀ s ∈ l, StOk s)
    (hp : StampIs w B T lab fs fv pm sv nm N ss l e1 w1) :
    (IsRS w1 B R lab fs gv rv ss ∧ B ≤ w1.heap.size ∧ e1 = .returned (.bool (stampsRun fs ss l).isSome)) ∧ (RStampIs w1 B R lab fs gv rv (stampsRun fs ss l) e2 w2 → e2 = .returned (.bool (stampsRun fs ss l).isSome) ∧ ∃ O', Both w2 B T R lab (N + l.length) fs ((stampsRun fs ss l).getD ss) O' ∧ OwnStep w w2 O O') := by
  unfold StampIs at hp
  unfold RStampIs
  have hrun := run_all (fs := fs) h5 hst
  cases hr : stampsRun fs ss l with
  | some ss' =>
    rw [hr] at hp hrun
    obtain ⟨rfl, sv', nm', p1, p2, p3, p4⟩ := hp
    have k2 := rs_keepsT h1 h2 p2
    refine ⟨⟨k2, Nat.le_trans hB p2.size, rfl⟩, ?_⟩
    rintro ⟨rfl, rv', r1, r2, r3⟩
    have hnd : ND ss' := by
      unfold rstampF at hrun
      split at hrun
      · have : ss' = nxt ss l := by injection hrun
        rw [this]
        exact ND_nxt h5 l
      · cases hrun
    refine ⟨rfl, _, ⟨fv, pm, sv', nm', gv, rv', ts_keepsR p1 k2.1.1 r2, r1, h3, h4, hnd, by omega, hN, rfl, Nat.le_trans hB (Nat.le_trans p2.size r2.size)⟩, ?_, fun x hx => ?_⟩
    · rw [hO]
      refine (p2.mono fun x hx => .inl ?_).trans r2 fun x hx => .inl ?_
      · rcases List.mem_cons.1 hx with rfl | hx
        · simp [tblk]
        · exact List.mem_append_right _ (List.mem_append_left _ hx)
      · have : x = R := by simpa using hx
        subst this
        simp
    · rw [hO]
      rcases List.mem_append.1 hx with hx | hx
      · exact .inl (List.mem_append_left _ hx)
      · rcases List.mem_append.1 hx with hx | hx
        · rcases p3 x (by simpa using hx) with h9 | h9
          · exact .inl (by simp [h9])
          · exact .inr h9
        · exact .inl (List.mem_append_right _ (List.mem_append_right _ hx))
  | none =>
    rw [hr] at hp
    obtain ⟨rfl, nm', p1, p2, p3⟩ := hp
    have k2 := rs_keepsT h1 h2 p2
    refine ⟨⟨k2, Nat.le_trans hB p2.size, rfl⟩, ?_⟩
    rintro ⟨rfl, hb⟩
    refine ⟨rfl, _, ⟨fv, pm, sv, nm', gv, rv, p1.below hb, k2.below hb, h3, h4, h5, by omega, hN, rfl, Nat.le_trans hB (Nat.le_trans p2.size hb.size)⟩, ?_, fun x hx => ?_⟩
    · rw [hO]
      refine (p2.mono fun x hx => .inl ?_).trans (Keeps.below' hb []) (by simp)
      rcases List.mem_cons.1 hx with rfl | hx
      · simp [tblk]
      · exact List.mem_append_right _ (List.mem_append_left _ hx)
    · rw [hO]
      rcases List.mem_append.1 hx with hx | hx
      · exact .inl (List.mem_append_left _ hx)
      · rcases List.mem_append.1 hx with hx | hx
        · rcases p3 x (by simpa using hx) with h9 | h9
          · exact .inl (by simp [h9])
          · exact .inr h9
        · exact .inl (List.mem_append_right _ (List.mem_append_right _ hx))
def actF (lab : Nat) (fs : List Fd) (ss : List St) (a : ActT) : List Fd × List St :=
  if a.d = 0 then ((putF lab fs ss a.c a.key a.val).2, ss) else if a.d = 1 then (fs, ss) else if a.d = 2 then (fs, ss) else (fs, (stampsRun fs ss a.st).getD ss)
theorem putF_len (lab : Nat) (fs : List Fd) (ss : List St) (c : Nat) (key v : V) : (putF lab fs ss c key v).2.length ≤ fs.length + 1 := by
  unfold putF
  split
  · simp
  · split
    · simp
    · split
      · split <;> simp
      · split
        · simp
        · split <;> simp
def ActDid (w : World) (B T R lab N : Nat) (r : List Fd × List St) (O : List Nat) (e : Ending) (w' : World) : Prop := e = .returned (.bool true) ∧ ∃ O', Both w' B T R lab N r.1 r.2 O' ∧ OwnStep w w' O O'
theorem eqSelfIn (W : World) (k n : Int) (s : ByteArray) (l : Int) : Sem.run Try.prog (Op.equalIn 10000 35 (.agg #[.int .i64 k, .int .i64 n, .string s, .int .u64 l]) (.agg #[.int .i64 k, .int .i64 n, .string s, .int .u64 l])) W = .ok true W := by
  simp [go_sem]
theorem eqSelf (W : World) (k n : Int) (s : ByteArray) (l : Int) : Sem.run Try.prog (binOp BinOp.eql 35 (.agg #[.int .i64 k, .int .i64 n, .string s, .int .u64 l]) (.agg #[.int .i64 k, .int .i64 n, .string s, .int .u64 l])) W = .ok (.bool true) W := by
  simp only [go_sem, eqSelfIn, Result.andThen]
set_option maxRecDepth 100000 in
set_option maxHeartbeats 4000000 in
theorem act_put (w : World) (B T R lab N : Nat) (fs : List Fd) (ss : List St) (O : List Nat) (hb : Both w B T R lab N fs ss O) (d kk kn xk xn nn : Int) (c kl xl : Nat) (ks xs : ByteArray) (st : List St) (asl : Option Addr) (acp : Nat) (hok : ActOk ⟨d, c, ⟨kk, kn, ks, kl⟩, ⟨xk, xn, xs, xl⟩, nn, st⟩) (hN : N + (10 + st.length) ≤ 100000) (hd : d = 0) :
    Calls Try.prog 13 #[.pointer (some ⟨T, 0, none⟩), .pointer (some ⟨R, 0, none⟩), .agg #[.int .i64 d, .int .u64 (c : Int), .int .i64 kk, .int .i64 kn, .string ks, .int .u64 (kl : Int), .int .i64 xk, .int .i64 xn, .string xs, .int .u64 (xl : Int), .int .i64 nn, .slice asl st.length acp]] w (ActDid w B T R lab (N + (10 + st.length)) (actF lab fs ss ⟨d, c, ⟨kk, kn, ks, kl⟩, ⟨xk, xn, xs, xl⟩, nn, st⟩) O) := by
  have hF : actF lab fs ss ⟨d, c, ⟨kk, kn, ks, kl⟩, ⟨xk, xn, xs, xl⟩, nn, st⟩ = ((putF lab fs ss c ⟨kk, kn, ks, kl⟩ ⟨xk, xn, xs, xl⟩).2, ss) := by unfold actF; rw [if_pos hd]
  rw [hF]
  clear hF
  subst hd
  have HX := Lib.hid (Has.new w 37 [.int .i64 0, .int .u64 (c : Int), .int .i64 kk, .int .i64 kn, .string ks, .int .u64 (kl : Int), .int .i64 xk, .int .i64 xn, .string xs, .int .u64 (xl : Int), .int .i64 nn, .slice asl st.length acp])
  have HA := Lib.hid ((Below.refl w.heap.size w).alloc (Nat.le_refl _) (.cells #[.int .i64 0, .int .u64 (c : Int), .int .i64 kk, .int .i64 kn, .string ks, .int .u64 (kl : Int), .int .i64 xk, .int .i64 xn, .string xs, .int .u64 (xl : Int), .int .i64 nn, .slice asl st.length acp] 37))
  have hlen := putF_len lab fs ss c ⟨kk, kn, ks, kl⟩ ⟨xk, xn, xs, xl⟩
  obtain ⟨fv, pm, sv, nm, gv, rv, h1, h2, h3, h4, h5, h6, h7, h8, h9⟩ := hb
  have h1' : IsTS (w.alloc (.cells #[.int .i64 0, .int .u64 (c : Int), .int .i64 kk, .int .i64 kn, .string ks, .int .u64 (kl : Int), .int .i64 xk, .int .i64 xn, .string xs, .int .u64 (xl : Int), .int .i64 nn, .slice asl st.length acp] 37)).drew B T lab fs fv pm sv nm (N + (10 + st.length)) ss := (h1.below HA.out.drew).more (by omega) (by omega)
  have h2' : IsRS (w.alloc (.cells #[.int .i64 0, .int .u64 (c : Int), .int .i64 kk, .int .i64 kn, .string ks, .int .u64 (kl : Int), .int .i64 xk, .int .i64 xn, .string xs, .int .u64 (xl : Int), .int .i64 nn, .slice asl st.length acp] 37)).drew B R lab fs gv rv ss := h2.below HA.out.drew
  have hB' : B ≤ (w.alloc (.cells #[.int .i64 0, .int .u64 (c : Int), .int .i64 kk, .int .i64 kn, .string ks, .int .u64 (kl : Int), .int .i64 xk, .int .i64 xn, .string xs, .int .u64 (xl : Int), .int .i64 nn, .slice asl st.length acp] 37)).drew.heap.size := Nat.le_trans h9 HA.out.size
  have HT := Lib.hid (tput_any B T lab (N + (10 + st.length)) fs fv pm sv nm ss c hok.1 ⟨kk, kn, ks, kl⟩ ⟨xk, xn, xs, xl⟩ hok.2.1 hok.2.2.1 _ hB' h1' (by omega))
  have HRp := Lib.hid (fun (W : World) (hW : IsRS W B R lab fs gv rv ss) (hBW : B ≤ W.heap.size) => rput_any B R lab fs gv rv ss c hok.1 ⟨kk, kn, ks, kl⟩ ⟨xk, xn, xs, xl⟩ hok.2.1 hok.2.2.1 W hW hBW (by omega))
  have hbo : putR lab fs ss c ⟨kk, kn, ks, kl⟩ ⟨xk, xn, xs, xl⟩ = putF lab fs ss c ⟨kk, kn, ks, kl⟩ ⟨xk, xn, xs, xl⟩ := put_both h5 c _ _
  simp only [hbo] at HRp
  obtain ⟨⟨er, fs1⟩, hpf⟩ : ∃ r, putF lab fs ss c ⟨kk, kn, ks, kl⟩ ⟨xk, xn, xs, xl⟩ = r := ⟨_, rfl⟩
  simp only [hpf] at HT HRp hlen ⊢
  have HP := Lib.hid (fun (w1 : World) (e1 e2 : Ending) (w2 : World) (hp : PutTS (w.alloc (.cells #[.int .i64 0, .int .u64 (c : Int), .int .i64 kk, .int .i64 kn, .string ks, .int .u64 (kl : Int), .int .i64 xk, .int .i64 xn, .string xs, .int .u64 (xl : Int), .int .i64 nn, .slice asl st.length acp] 37)).drew B T lab fv pm sv nm (N + (10 + st.length)) ss (er, fs1) e1 w1) => both_put (w1 := w1) (e1 := e1) (w2 := w2) (e2 := e2) h1' h2' h3 h4 h5 (by omega : fs1.length ≤ N + (10 + st.length)) hN h8 hB' hp)
  have HOO : Hid (∀ x ∈ O, x < w.heap.size) := Lib.hid (fun x hx => (Both.parts ⟨fv, pm, sv, nm, gv, rv, h1, h2, h3, h4, h5, h6, h7, h8, h9⟩ x hx).2)
  have HSub : Hid (∀ x ∈ tblk T fv pm, x < w.heap.size) := Lib.hid (fun x hx => HOO.out x (by rw [h8]; exact List.mem_append_left _ hx))
  have HSub2 : Hid (∀ x ∈ R :: gv.ownBlock.toList, x < w.heap.size) := Lib.hid (fun x hx => HOO.out x (by rw [h8]; exact List.mem_append_right _ (List.mem_append_right _ hx)))
  simp only [V.agg] at HT HRp
  have hx0 := HX.out.cell 0
  have hl0 := HX.out.lt
  simp only [List.getElem?_cons_zero] at hx0
  clear h1 h2 h1' h2' hB' hpf hok hbo
  have HSS : Hid (∀ W', Has W' w.heap.size 37 [.int .i64 0, .int .u64 (c : Int), .int .i64 kk, .int .i64 kn, .string ks, .int .u64 (kl : Int), .int .i64 xk, .int .i64 xn, .string xs, .int .u64 (xl : Int), .int .i64 nn, .slice asl st.length acp] → W'.cell? ⟨w.heap.size, 1, none⟩ = some (.int .u64 (c : Int)) ∧ W'.cell? ⟨w.heap.size, 2, none⟩ = some (.int .i64 kk) ∧ W'.cell? ⟨w.heap.size, 3, none⟩ = some (.int .i64 kn) ∧ W'.cell? ⟨w.heap.size, 4, none⟩ = some (.string ks) ∧ W'.cell? ⟨w.heap.size, 5, none⟩ = some (.int .u64 (kl : Int)) ∧ W'.cell? ⟨w.heap.size, 6, none⟩ = some (.int .i64 xk) ∧ W'.cell? ⟨w.heap.size, 7, none⟩ = some (.int .i64 xn) ∧ W'.cell? ⟨w.heap.size, 8, none⟩ = some (.string xs) ∧ W'.cell? ⟨w.heap.size, 9, none⟩ = some (.int .u64 (xl : Int))) := Lib.hid (fun W' hh => ⟨hh.cell 1, hh.cell 2, hh.cell 3, hh.cell 4, hh.cell 5, hh.cell 6, hh.cell 7, hh.cell 8, hh.cell 9⟩)
  go_enter Try.func13, Try.ntmps13
  go_wp2
  have hpre := HSS.out _ HX.out
  obtain ⟨y1, y2, y3, y4, y5, y6, y7, y8, y9⟩ := hpre
  go_region_held3 (fun W' => W'.cell? ⟨w.heap.size, 1, none⟩ = some (.int .u64 (c : Int)) ∧ W'.cell? ⟨w.heap.size, 2, none⟩ = some (.int .i64 kk) ∧ W'.cell? ⟨w.heap.size, 3, none⟩ = some (.int .i64 kn) ∧ W'.cell? ⟨w.heap.size, 4, none⟩ = some (.string ks) ∧ W'.cell? ⟨w.heap.size, 5, none⟩ = some (.int .u64 (kl : Int)) ∧ W'.cell? ⟨w.heap.size, 6, none⟩ = some (.int .i64 xk) ∧ W'.cell? ⟨w.heap.size, 7, none⟩ = some (.int .i64 xn) ∧ W'.cell? ⟨w.heap.size, 8, none⟩ = some (.string xs) ∧ W'.cell? ⟨w.heap.size, 9, none⟩ = some (.int .u64 (xl : Int)))
    (first | exact HSS.out _ HX.out.drew | exact HSS.out _ q1 | exact HSS.out _ q2 | skip)
    (first
      | (go_at_call 15
         refine (HT.out).mono ?_
         rintro e w5 hp5
         obtain ⟨hr5, hB5⟩ := (HP.out w5 e e w5 hp5).1
         have hfin := Lib.hid (fun e2 w2 => (HP.out w5 e e2 w2 hp5).2)
         obtain ⟨rfl, fv5, pm5, -, hk5, -⟩ := hp5
         have q1 := HX.out.drew.keeps hk5 (fun hm => Nat.lt_irrefl _ (HSub.out _ hm)))
      | (go_at_call 27
         refine (HRp.out _ hr5 hB5).mono ?_
         rintro e w6 hp6
         have hend := hfin.out e w6 hp6
         obtain ⟨rfl, gv6, -, hk6, -⟩ := hp6
         have q2 := q1.keeps hk6 (fun hm => Nat.lt_irrefl _ (HSub2.out _ hm))))
  all_goals
    obtain ⟨O', hbo', hos'⟩ := hend
    have HE := Lib.hid (show ActDid w B T R lab (N + (10 + st.length)) (fs1, ss) O (.returned (.bool true)) w6 from ⟨rfl, O', hbo', (OwnStep.below HA.out.drew).trans hos'⟩)
    clear hbo' hos' hfin
    go_wp2
    go_ret
    exact HE.out
set_option maxRecDepth 100000 in
set_option maxHeartbeats 4000000 in
theorem act_get (w : World) (B T R lab N : Nat) (fs : List Fd) (ss : List St) (O : List Nat) (hb : Both w B T R lab N fs ss O) (d kk kn xk xn nn : Int) (c kl xl : Nat) (ks xs : ByteArray) (st : List St) (asl : Option Addr) (acp : Nat) (hok : ActOk ⟨d, c, ⟨kk, kn, ks, kl⟩, ⟨xk, xn, xs, xl⟩, nn, st⟩) (hN : N + (10 + st.length) ≤ 100000) (hd : d = 1) :
    Calls Try.prog 13 #[.pointer (some ⟨T, 0, none⟩), .pointer (some ⟨R, 0, none⟩), .agg #[.int .i64 d, .int .u64 (c : Int), .int .i64 kk, .int .i64 kn, .string ks, .int .u64 (kl : Int), .int .i64 xk, .int .i64 xn, .string xs, .int .u64 (xl : Int), .int .i64 nn, .slice asl st.length acp]] w (ActDid w B T R lab (N + (10 + st.length)) (actF lab fs ss ⟨d, c, ⟨kk, kn, ks, kl⟩, ⟨xk, xn, xs, xl⟩, nn, st⟩) O) := by
  have hF : actF lab fs ss ⟨d, c, ⟨kk, kn, ks, kl⟩, ⟨xk, xn, xs, xl⟩, nn, st⟩ = (fs, ss) := by unfold actF; rw [if_neg (by omega : ¬ d = 0), if_pos hd]
  rw [hF]
  clear hF
  subst hd
  have HX := Lib.hid (Has.new w 37 [.int .i64 1, .int .u64 (c : Int), .int .i64 kk, .int .i64 kn, .string ks, .int .u64 (kl : Int), .int .i64 xk, .int .i64 xn, .string xs, .int .u64 (xl : Int), .int .i64 nn, .slice asl st.length acp])
  have HA := Lib.hid ((Below.refl w.heap.size w).alloc (Nat.le_refl _) (.cells #[.int .i64 1, .int .u64 (c : Int), .int .i64 kk, .int .i64 kn, .string ks, .int .u64 (kl : Int), .int .i64 xk, .int .i64 xn, .string xs, .int .u64 (xl : Int), .int .i64 nn, .slice asl st.length acp] 37))
  have HB := Lib.hid hb
  obtain ⟨fv, pm, sv, nm, gv, rv, h1, h2, -⟩ := hb
  have HG := Lib.hid (fun (W : World) (hW : Below w.heap.size w W) => get_any B T lab fs fv sv (.map nm) pm ⟨kk, kn, ks, kl⟩ hok.2.1 W (h1.below hW).1)
  have HRg := Lib.hid (fun (W : World) (hW : Below w.heap.size w W) => rget_any B R lab fs gv rv ⟨kk, kn, ks, kl⟩ hok.2.1 W (h2.below hW).1)
  obtain ⟨r, hr⟩ : ∃ r, (valOf fs ⟨kk, kn, ks, kl⟩).with (kl ||| lab) = r := ⟨_, rfl⟩
  simp only [hr] at HG HRg
  obtain ⟨rk, rn, rs, rl⟩ := r
  simp only [V.agg] at HG HRg
  have he := fun W => eqSelf W rk rn rs (rl : Int)
  have he2 := fun W => eqSelfIn W rk rn rs (rl : Int)
  have hx0 := HX.out.cell 0
  have hl0 := HX.out.lt
  simp only [List.getElem?_cons_zero] at hx0
  clear h1 h2 hr hok
  have HSS : Hid (∀ W', Has W' w.heap.size 37 [.int .i64 1, .int .u64 (c : Int), .int .i64 kk, .int .i64 kn, .string ks, .int .u64 (kl : Int), .int .i64 xk, .int .i64 xn, .string xs, .int .u64 (xl : Int), .int .i64 nn, .slice asl st.length acp] → W'.cell? ⟨w.heap.size, 2, none⟩ = some (.int .i64 kk) ∧ W'.cell? ⟨w.heap.size, 3, none⟩ = some (.int .i64 kn) ∧ W'.cell? ⟨w.heap.size, 4, none⟩ = some (.string ks) ∧ W'.cell? ⟨w.heap.size, 5, none⟩ = some (.int .u64 (kl : Int))) := Lib.hid (fun W' hh => ⟨hh.cell 2, hh.cell 3, hh.cell 4, hh.cell 5⟩)
  go_enter Try.func13, Try.ntmps13
  go_wp2
  have hpre := HSS.out _ HX.out
  obtain ⟨y2, y3, y4, y5⟩ := hpre
  go_region_held3 (fun W' => W'.cell? ⟨w.heap.size, 2, none⟩ = some (.int .i64 kk) ∧ W'.cell? ⟨w.heap.size, 3, none⟩ = some (.int .i64 kn) ∧ W'.cell? ⟨w.heap.size, 4, none⟩ = some (.string ks) ∧ W'.cell? ⟨w.heap.size, 5, none⟩ = some (.int .u64 (kl : Int)))
    (first | exact HSS.out _ HX.out.drew | exact HSS.out _ q1 | exact HSS.out _ q2 | skip)
    (first
      | (go_at_call 14
         refine (HG.out _ HA.out.drew).mono ?_
         rintro e w5 ⟨rfl, hb5⟩
         simp only [V.agg]
         have b5 := Lib.hid (HA.out.drew.trans (hb5.mono HA.out.drew.size))
         have q1 := HX.out.drew.below hb5 HX.out.drew.lt
         clear hb5)
      | (go_at_call 28
         refine (HRg.out _ b5.out).mono ?_
         rintro e w6 ⟨rfl, hb6⟩
         simp only [V.agg]
         have b6 := Lib.hid (b5.out.trans (hb6.mono b5.out.size))
         have q2 := q1.below hb6 q1.lt
         clear hb6))
  all_goals
    have HE := Lib.hid (show ActDid w B T R lab (N + (10 + st.length)) (fs, ss) O (.returned (.bool true)) w6 from ⟨rfl, O, (HB.out.below b6.out).more (by omega) hN, OwnStep.below b6.out⟩)
    go_wp2
    go_ret
    exact HE.out
set_option maxRecDepth 100000 in
set_option maxHeartbeats 4000000 in
theorem act_key (w : World) (B T R lab N : Nat) (fs : List Fd) (ss : List St) (O : List Nat) (hb : Both w B T R lab N fs ss O) (d kk kn xk xn nn : Int) (c kl xl : Nat) (ks xs : ByteArray) (st : List St) (asl : Option Addr) (acp : Nat) (hok : ActOk ⟨d, c, ⟨kk, kn, ks, kl⟩, ⟨xk, xn, xs, xl⟩, nn, st⟩) (hN : N + (10 + st.length) ≤ 100000) (hd : d = 2) :
    Calls Try.prog 13 #[.pointer (some ⟨T, 0, none⟩), .pointer (some ⟨R, 0, none⟩), .agg #[.int .i64 d, .int .u64 (c : Int), .int .i64 kk, .int .i64 kn, .string ks, .int .u64 (kl : Int), .int .i64 xk, .int .i64 xn, .string xs, .int .u64 (xl : Int), .int .i64 nn, .slice asl st.length acp]] w (ActDid w B T R lab (N + (10 + st.length)) (actF lab fs ss ⟨d, c, ⟨kk, kn, ks, kl⟩, ⟨xk, xn, xs, xl⟩, nn, st⟩) O) := by
  have hF : actF lab fs ss ⟨d, c, ⟨kk, kn, ks, kl⟩, ⟨xk, xn, xs, xl⟩, nn, st⟩ = (fs, ss) := by unfold actF; rw [if_neg (by omega : ¬ d = 0), if_neg (by omega : ¬ d = 1), if_pos hd]
  rw [hF]
  clear hF
  subst hd
  clear hok
  have HX := Lib.hid (Has.new w 37 [.int .i64 2, .int .u64 (c : Int), .int .i64 kk, .int .i64 kn, .string ks, .int .u64 (kl : Int), .int .i64 xk, .int .i64 xn, .string xs, .int .u64 (xl : Int), .int .i64 nn, .slice asl st.length acp])
  have HA := Lib.hid ((Below.refl w.heap.size w).alloc (Nat.le_refl _) (.cells #[.int .i64 2, .int .u64 (c : Int), .int .i64 kk, .int .i64 kn, .string ks, .int .u64 (kl : Int), .int .i64 xk, .int .i64 xn, .string xs, .int .u64 (xl : Int), .int .i64 nn, .slice asl st.length acp] 37))
  have HB := Lib.hid hb
  obtain ⟨fv, pm, sv, nm, gv, rv, h1, h2, -⟩ := hb
  have hx0 := HX.out.cell 0
  have hx10 := HX.out.cell 10
  have hl0 := HX.out.lt
  simp only [List.getElem?_cons_zero, List.getElem?_cons_succ] at hx0 hx10
  have hcase : (nn < 1 ∨ (fs.length : Int) < nn) ∨ ∃ (i : Nat) (f : Fd), fs[i]? = some f ∧ nn = (i : Int) + 1 := by
    by_cases ha : nn < 1 ∨ (fs.length : Int) < nn
    · exact .inl ha
    · right
      obtain ⟨i, hi⟩ : ∃ i : Nat, nn = (i : Int) + 1 := ⟨(nn - 1).toNat, by omega⟩
      have : i < fs.length := by omega
      exact ⟨i, _, List.getElem?_eq_getElem this, hi⟩
  rcases hcase with hno | ⟨i, f, hf, rfl⟩
  · have HG := Lib.hid (fun (W : World) (hW : Below w.heap.size w W) => key_no B T lab fs fv sv (.map nm) pm nn hno W (h1.below hW).1)
    have HRg := Lib.hid (fun (W : World) (hW : Below w.heap.size w W) => rkey_no B R lab fs gv rv nn hno W (h2.below hW).1)
    have he := fun W => eqSelf W 0 0 ⟨#[]⟩ 0
    have he2 := fun W => eqSelfIn W 0 0 ⟨#[]⟩ 0
    clear h1 h2 hno
    go_enter Try.func13, Try.ntmps13
    go_wp2_with fail
    refine (HG.out _ HA.out).mono ?_
    rintro e w5 ⟨rfl, hb5⟩
    have b5 := Lib.hid (HA.out.trans (hb5.mono HA.out.size))
    have b5' := Lib.hid (b5.out.alloc b5.out.size (.cells #[.int .i64 0, .int .i64 0, .string ⟨#[]⟩, .int .u64 0] 35))
    have q1 := Lib.hid ((HX.out.below hb5 HX.out.lt).keeps (Keeps.alloc [] w5 (.cells #[.int .i64 0, .int .i64 0, .string ⟨#[]⟩, .int .u64 0] 35)) (by simp))
    have V5 := Lib.hid (Has.new w5 35 [.int .i64 0, .int .i64 0, .string ⟨#[]⟩, .int .u64 0])
    clear hb5 hx0 hx10 hl0
    have hx10 := q1.out.cell 10
    have hl0 := q1.out.lt
    simp only [List.getElem?_cons_zero, List.getElem?_cons_succ] at hx10
    go_wp2_with fail
    refine (HRg.out _ b5'.out).mono ?_
    rintro e w6 ⟨rfl, hb6⟩
    have V6 := Lib.hid ((V5.out.below hb6 V5.out.lt).keeps (Keeps.alloc [] w6 (.cells #[.int .i64 0, .int .i64 0, .string ⟨#[]⟩, .int .u64 0] 35)) (by simp))
    have b6 := Lib.hid (b5'.out.trans (hb6.mono b5'.out.size))
    have b6' := Lib.hid (b6.out.alloc b6.out.size (.cells #[.int .i64 0, .int .i64 0, .string ⟨#[]⟩, .int .u64 0] 35))
    clear hb6
    have v0 := V6.out.cell 0
    have v1 := V6.out.cell 1
    have v2 := V6.out.cell 2
    have v3 := V6.out.cell 3
    have vl := V6.out.lt
    simp only [List.getElem?_cons_zero, List.getElem?_cons_succ] at v0 v1 v2 v3
    have HE := Lib.hid (show ActDid w B T R lab (N + (10 + st.length)) (fs, ss) O (.returned (.bool true)) (w6.alloc (.cells #[.int .i64 0, .int .i64 0, .string ⟨#[]⟩, .int .u64 0] 35)) from ⟨rfl, O, (HB.out.below b6'.out).more (by omega) hN, OwnStep.below b6'.out⟩)
    go_wp2
    go_ret
    exact HE.out
  · have HG := Lib.hid (fun (W : World) (hW : Below w.heap.size w W) => key_at B T lab fs fv sv (.map nm) pm i f hf W (h1.below hW).1)
    have HRg := Lib.hid (fun (W : World) (hW : Below w.heap.size w W) => rkey_at B R lab fs gv rv i f hf W (h2.below hW).1)
    clear h1 h2 hf
    obtain ⟨⟨fk, fn, fs1, fl⟩, f2⟩ := f
    simp only at HG HRg
    have he := fun W => eqSelf W fk fn fs1 (fl : Int)
    have he2 := fun W => eqSelfIn W fk fn fs1 (fl : Int)
    go_enter Try.func13, Try.ntmps13
    go_wp2_with fail
    refine (HG.out _ HA.out).mono ?_
    rintro e w5 ⟨rfl, hb5⟩
    simp only [V.agg]
    have b5 := Lib.hid (HA.out.trans (hb5.mono HA.out.size))
    have b5' := Lib.hid (b5.out.alloc b5.out.size (.cells #[.int .i64 fk, .int .i64 fn, .string fs1, .int .u64 (fl : Int)] 35))
    have q1 := Lib.hid ((HX.out.below hb5 HX.out.lt).keeps (Keeps.alloc [] w5 (.cells #[.int .i64 fk, .int .i64 fn, .string fs1, .int .u64 (fl : Int)] 35)) (by simp))
    have V5 := Lib.hid (Has.new w5 35 [.int .i64 fk, .int .i64 fn, .string fs1, .int .u64 (fl : Int)])
    clear hb5 hx0 hx10 hl0
    have hx10 := q1.out.cell 10
    have hl0 := q1.out.lt
    simp only [List.getElem?_cons_zero, List.getElem?_cons_succ] at hx10
    go_wp2_with fail
    refine (HRg.out _ b5'.out).mono ?_
    rintro e w6 ⟨rfl, hb6⟩
    simp only [V.agg]
    have V6 := Lib.hid ((V5.out.below hb6 V5.out.lt).keeps (Keeps.alloc [] w6 (.cells #[.int .i64 fk, .int .i64 fn, .string fs1, .int .u64 (fl : Int)] 35)) (by simp))
    have b6 := Lib.hid (b5'.out.trans (hb6.mono b5'.out.size))
    have b6' := Lib.hid (b6.out.alloc b6.out.size (.cells #[.int .i64 fk, .int .i64 fn, .string fs1, .int .u64 (fl : Int)] 35))
    clear hb6
    have v0 := V6.out.cell 0
    have v1 := V6.out.cell 1
    have v2 := V6.out.cell 2
    have v3 := V6.out.cell 3
    have vl := V6.out.lt
    simp only [List.getElem?_cons_zero, List.getElem?_cons_succ] at v0 v1 v2 v3
    have HE := Lib.hid (show ActDid w B T R lab (N + (10 + st.length)) (fs, ss) O (.returned (.bool true)) (w6.alloc (.cells #[.int .i64 fk, .int .i64 fn, .string fs1, .int .u64 (fl : Int)] 35)) from ⟨rfl, O, (HB.out.below b6'.out).more (by omega) hN, OwnStep.below b6'.out⟩)
    go_wp2
    go_ret
    exact HE.out
set_option maxRecDepth 100000 in
set_option maxHeartbeats 4000000 in
theorem act_stamp (w : World) (B T R lab N : Nat) (fs : List Fd) (ss : List St) (O : List Nat) (hb : Both w B T R lab N fs ss O) (d kk kn xk xn nn : Int) (c kl xl : Nat) (ks xs : ByteArray) (st : List St) (asl : Option Addr) (acp : Nat) (hok : ActOk ⟨d, c, ⟨kk, kn, ks, kl⟩, ⟨xk, xn, xs, xl⟩, nn, st⟩)
    (hst : st = [] ∨ ∃ g o, asl = some ⟨g, o, none⟩ ∧ g < B ∧ ∀ i s, st[i]? = some s → w.cell? ⟨g, o + i * 2, none⟩ = some (.string s.1) ∧ w.cell? ⟨g, o + i * 2 + 1, none⟩ = some (.int .i64 s.2)) (hN : N + (10 + st.length) ≤ 100000) (hd : ¬ d = 0) (hd1 : ¬ d = 1) (hd2 : ¬ d = 2) :
    Calls Try.prog 13 #[.pointer (some ⟨T, 0, none⟩), .pointer (some ⟨R, 0, none⟩), .agg #[.int .i64 d, .int .u64 (c : Int), .int .i64 kk, .int .i64 kn, .string ks, .int .u64 (kl : Int), .int .i64 xk, .int .i64 xn, .string xs, .int .u64 (xl : Int), .int .i64 nn, .slice asl st.length acp]] w (ActDid w B T R lab (N + (10 + st.length)) (actF lab fs ss ⟨d, c, ⟨kk, kn, ks, kl⟩, ⟨xk, xn, xs, xl⟩, nn, st⟩) O) := by
  have hF : actF lab fs ss ⟨d, c, ⟨kk, kn, ks, kl⟩, ⟨xk, xn, xs, xl⟩, nn, st⟩ = (fs, (stampsRun fs ss st).getD ss) := by unfold actF; rw [if_neg hd, if_neg hd1, if_neg hd2]
  rw [hF]
  clear hF
  have HX := Lib.hid (Has.new w 37 [.int .i64 d, .int .u64 (c : Int), .int .i64 kk, .int .i64 kn, .string ks, .int .u64 (kl : Int), .int .i64 xk, .int .i64 xn, .string xs, .int .u64 (xl : Int), .int .i64 nn, .slice asl st.length acp])
  have HA := Lib.hid ((Below.refl w.heap.size w).alloc (Nat.le_refl _) (.cells #[.int .i64 d, .int .u64 (c : Int), .int .i64 kk, .int .i64 kn, .string ks, .int .u64 (kl : Int), .int .i64 xk, .int .i64 xn, .string xs, .int .u64 (xl : Int), .int .i64 nn, .slice asl st.length acp] 37))
  obtain ⟨fv, pm, sv, nm, gv, rv, h1, h2, h3, h4, h5, h6, h7, h8, h9⟩ := hb
  have h1' : IsTS (w.alloc (.cells #[.int .i64 d, .int .u64 (c : Int), .int .i64 kk, .int .i64 kn, .string ks, .int .u64 (kl : Int), .int .i64 xk, .int .i64 xn, .string xs, .int .u64 (xl : Int), .int .i64 nn, .slice asl st.length acp] 37)).drew B T lab fs fv pm sv nm (N + 10) ss := (h1.below HA.out.drew).more (by omega) (by omega)
  have h2' : IsRS (w.alloc (.cells #[.int .i64 d, .int .u64 (c : Int), .int .i64 kk, .int .i64 kn, .string ks, .int .u64 (kl : Int), .int .i64 xk, .int .i64 xn, .string xs, .int .u64 (xl : Int), .int .i64 nn, .slice asl st.length acp] 37)).drew B R lab fs gv rv ss := h2.below HA.out.drew
  have hB' : B ≤ (w.alloc (.cells #[.int .i64 d, .int .u64 (c : Int), .int .i64 kk, .int .i64 kn, .string ks, .int .u64 (kl : Int), .int .i64 xk, .int .i64 xn, .string xs, .int .u64 (xl : Int), .int .i64 nn, .slice asl st.length acp] 37)).drew.heap.size := Nat.le_trans h9 HA.out.size
  have hst' : st = [] ∨ ∃ g o, asl = some ⟨g, o, none⟩ ∧ g < B ∧ ∀ i s, st[i]? = some s → (w.alloc (.cells #[.int .i64 d, .int .u64 (c : Int), .int .i64 kk, .int .i64 kn, .string ks, .int .u64 (kl : Int), .int .i64 xk, .int .i64 xn, .string xs, .int .u64 (xl : Int), .int .i64 nn, .slice asl st.length acp] 37)).drew.cell? ⟨g, o + i * 2, none⟩ = some (.string s.1) ∧ (w.alloc (.cells #[.int .i64 d, .int .u64 (c : Int), .int .i64 kk, .int .i64 kn, .string ks, .int .u64 (kl : Int), .int .i64 xk, .int .i64 xn, .string xs, .int .u64 (xl : Int), .int .i64 nn, .slice asl st.length acp] 37)).drew.cell? ⟨g, o + i * 2 + 1, none⟩ = some (.int .i64 s.2) := by
    rcases hst with h | ⟨g, o, q1, q2, q3⟩
    · exact .inl h
    · exact .inr ⟨g, o, q1, q2, fun i s hs => ⟨(HA.out.drew.cell (p := ⟨g, _, none⟩) (show g < w.heap.size by omega)).trans (q3 i s hs).1, (HA.out.drew.cell (p := ⟨g, _, none⟩) (show g < w.heap.size by omega)).trans (q3 i s hs).2⟩⟩
  have HT := Lib.hid (stamp_any B T lab (N + 10) fs fv pm sv nm ss st asl acp _ h1' hB' (by omega) hok.2.2.2.2.1 hst')
  have hBk : ∀ x ∈ T :: nm.toList, B ≤ x := fun x hx => by
    rcases List.mem_cons.1 hx with rfl | hx
    · exact h1.1.2.2.2.1
    · have e : nm = some x := by simpa using hx
      have hp := h1.2.1.2.1
      rw [e] at hp
      exact hp.1
  have hrun := run_all (fs := fs) h5 hok.2.2.2.2.1
  have hsl := h1.2.1.2.2.2.1
  have HRp := Lib.hid (fun (W : World) (hW : IsRS W B R lab fs gv rv ss) (hBW : B ≤ W.heap.size) (hk : Keeps (T :: nm.toList) (w.alloc (.cells #[.int .i64 d, .int .u64 (c : Int), .int .i64 kk, .int .i64 kn, .string ks, .int .u64 (kl : Int), .int .i64 xk, .int .i64 xn, .string xs, .int .u64 (xl : Int), .int .i64 nn, .slice asl st.length acp] 37)).drew W) => rstamp_any B R lab fs gv rv ss st asl acp W hW hBW (by omega) hok.2.2.2.2.1 (by
    rcases hst' with h | ⟨g, o, q1, q2, q3⟩
    · exact .inl h
    · have hb := hk.toBelow B hB' hBk
      exact .inr ⟨g, o, q1, by omega, fun i s hs => ⟨(hb.cell (p := ⟨g, _, none⟩) q2).trans (q3 i s hs).1, (hb.cell (p := ⟨g, _, none⟩) q2).trans (q3 i s hs).2⟩⟩))
  rw [← hrun] at HRp
  have HP := Lib.hid (fun (w1 : World) (e1 e2 : Ending) (w2 : World) (hp : StampIs (w.alloc (.cells #[.int .i64 d, .int .u64 (c : Int), .int .i64 kk, .int .i64 kn, .string ks, .int .u64 (kl : Int), .int .i64 xk, .int .i64 xn, .string xs, .int .u64 (xl : Int), .int .i64 nn, .slice asl st.length acp] 37)).drew B T lab fs fv pm sv nm (N + 10) ss st e1 w1) => both_stamp (l := st) (w1 := w1) (e1 := e1) (w2 := w2) (e2 := e2) h1' h2' h3 h4 h5 (by omega) (by omega) h8 hB' hok.2.2.2.2.1 hp)
  have HKp : Hid (∀ (w1 : World) (e1 : Ending), StampIs (w.alloc (.cells #[.int .i64 d, .int .u64 (c : Int), .int .i64 kk, .int .i64 kn, .string ks, .int .u64 (kl : Int), .int .i64 xk, .int .i64 xn, .string xs, .int .u64 (xl : Int), .int .i64 nn, .slice asl st.length acp] 37)).drew B T lab fs fv pm sv nm (N + 10) ss st e1 w1 → Keeps (T :: nm.toList) (w.alloc (.cells #[.int .i64 d, .int .u64 (c : Int), .int .i64 kk, .int .i64 kn, .string ks, .int .u64 (kl : Int), .int .i64 xk, .int .i64 xn, .string xs, .int .u64 (xl : Int), .int .i64 nn, .slice asl st.length acp] 37)).drew w1) := Lib.hid (fun w1 e1 hp => by
    unfold StampIs at hp
    cases hc : stampsRun fs ss st with
    | some x => rw [hc] at hp; exact hp.2.choose_spec.choose_spec.2.1
    | none => rw [hc] at hp; exact hp.2.choose_spec.2.1)
  have HKr : Hid (∀ (w1 w2 : World) (e2 : Ending), RStampIs w1 B R lab fs gv rv (stampsRun fs ss st) e2 w2 → Keeps [R] w1 w2) := Lib.hid (fun w1 w2 e2 hp => by
    unfold RStampIs at hp
    cases hc : stampsRun fs ss st with
    | some x => rw [hc] at hp; exact hp.2.choose_spec.2.1
    | none => rw [hc] at hp; exact Keeps.below' hp.2 [R])
  have HRlt := Lib.hid h2.1.1.lt
  have HSub : Hid (∀ x ∈ T :: nm.toList, x < w.heap.size) := Lib.hid (fun x hx => (Both.parts ⟨fv, pm, sv, nm, gv, rv, h1, h2, h3, h4, h5, h6, h7, h8, h9⟩ x (by
    rw [h8]
    rcases List.mem_cons.1 hx with rfl | hx
    · simp [tblk]
    · exact List.mem_append_right _ (List.mem_append_left _ hx))).2)
  obtain ⟨sr, hsr⟩ : ∃ r, stampsRun fs ss st = r := ⟨_, rfl⟩
  rw [hsr] at HRp HP HKr ⊢
  obtain ⟨sb, hsb⟩ : ∃ b, sr.isSome = b := ⟨_, rfl⟩
  rw [hsb] at HP
  have hx0 := HX.out.cell 0
  have hl0 := HX.out.lt
  simp only [List.getElem?_cons_zero] at hx0
  have hd0' : (d == 0) = false := by simpa using hd
  have hd1' : (d == 1) = false := by simpa using hd1
  have hd2' : (d == 2) = false := by simpa using hd2
  have HSR := Lib.hid hsb
  clear h1 h2 h1' h2' hB' hok hst hst' hBk hrun hsr hsb
  have HSS : Hid (∀ W', Has W' w.heap.size 37 [.int .i64 d, .int .u64 (c : Int), .int .i64 kk, .int .i64 kn, .string ks, .int .u64 (kl : Int), .int .i64 xk, .int .i64 xn, .string xs, .int .u64 (xl : Int), .int .i64 nn, .slice asl st.length acp] → W'.cell? ⟨w.heap.size, 11, none⟩ = some (.slice asl st.length acp)) := Lib.hid (fun W' hh => hh.cell 11)
  go_enter Try.func13, Try.ntmps13
  go_wp2
  have y11 := HSS.out _ HX.out
  go_region_held3 (fun W' => W'.cell? ⟨w.heap.size, 11, none⟩ = some (.slice asl st.length acp))
    (first | exact HSS.out _ HX.out.drew | exact HSS.out _ q1 | exact HSS.out _ q2 | skip)
    (first
      | (go_at_call 20
         refine (HT.out).mono ?_
         rintro e w5 hp5
         have hk5 := HKp.out w5 e hp5
         obtain ⟨hr5, hB5, rfl⟩ := (HP.out w5 e e w5 hp5).1
         have hfin := Lib.hid (fun e2 w2 => (HP.out w5 _ e2 w2 hp5).2)
         have q1 := HX.out.drew.keeps hk5 (fun hm => Nat.lt_irrefl _ (HSub.out _ hm))
         clear hp5)
      | (go_at_call 30
         refine (HRp.out _ hr5 hB5 hk5).mono ?_
         rintro e w6 hp6
         obtain ⟨rfl, hend⟩ := hfin.out e w6 hp6
         have q2 := q1.keeps (HKr.out _ _ _ hp6) (fun hm => by have := HRlt.out; have h9 : w.heap.size = R := by simpa using hm
                                                               omega)))
  all_goals
    obtain ⟨O', hbo', hos'⟩ := hend
    have HE := Lib.hid (show ActDid w B T R lab (N + (10 + st.length)) (fs, sr.getD ss) O (.returned (.bool true)) w6 from ⟨rfl, O', by rw [← Nat.add_assoc]; exact hbo', (OwnStep.below HA.out.drew).trans hos'⟩)
    clear hbo' hos' hfin
    go_wp2
    go_ret
    exact HE.out
end TabD
end Go.Proofs.Ytpmbbkhhnkhcbaa
