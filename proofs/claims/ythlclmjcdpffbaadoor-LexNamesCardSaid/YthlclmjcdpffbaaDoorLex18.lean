/- The document's tokens. -/
import Derived.Test.YthlclmjcdpffbaaDoorLex17
import Derived.Test.YthlclmjcdpffbaaDoorNumRef
namespace Go.Proofs.YthlclmjcdpffbaaDoor
open Go.RowKit ObjM Go.Maps
namespace LexD

/-- A token told without its place. -/
def Tok.at0 (t : Tok) (p : Nat) (k : Nat) : Tok := ⟨t.kind, t.text, p, (p : Int) + (k : Int), t.n⟩
theorem tok_at (p : Nat) (l : List UInt8) : tokV p l = match tokV 0 l with | .ok (t, k) => .ok (t.at0 p k, k) | .error e => .error e := by
  cases l with
  | nil => rfl
  | cons c r =>
    rw [tokV, tokV]
    split
    · rfl
    · split
      · split <;> rfl
      · split
        · split <;> rfl
        · split <;> rfl
def TokCells (t : Tok) : Value := .agg #[.int .i64 t.kind, .string t.text, .int .i64 0, .int .i64 0, .int .i64 t.n]
def TokZero : Value := .agg #[.int .i64 0, .string ⟨#[]⟩, .int .i64 0, .int .i64 0, .int .i64 0]
/-- What the document's reader of one token comes to. -/
inductive TokIs (w : World) (l : List UInt8) : Ending → World → Prop
  | ok (t : Tok) (k : Nat) (w' : World) : tokV 0 l = .ok (t, k) → Below w.heap.size w w' → TokIs w l (.returned (.tuple #[TokCells t, .int .i64 (k : Int), .int .i64 0])) w'
  | err (er : Int) (w' : World) : tokV 0 l = .error er → er ≠ 0 → Below w.heap.size w w' → TokIs w l (.returned (.tuple #[TokZero, .int .i64 0, .int .i64 er])) w'
theorem run_zero {c : UInt8} {r : List UInt8} (h : letB c.toNat = false) (h2 : digB c.toNat = false) : runN (c :: r) = 0 := by
  have : parB (c.toNat : Int) = false := by unfold parB; simp [h, h2]
  unfold runN
  rw [List.takeWhile_cons, this]
  rfl
theorem ext_take (s : ByteArray) (k : Nat) : s.extract 0 k = bytes (s.data.toList.take k) := by
  rw [← bytes_toList (s.extract 0 k), ext_toList]
  simp
theorem key_bytes (l : List UInt8) : key8 (bytes l) = l := by simp [key8, bytes]
set_option maxRecDepth 100000 in
set_option maxHeartbeats 8000000 in
theorem refToken_any (s : ByteArray) (h0 : 0 < s.size) (hs : s.size ≤ 1000000) (w : World) : Calls Tryd.prog 24 #[.string s] w (TokIs w s.data.toList) := by
  obtain ⟨r, hr⟩ := list_zero h0
  have hi0 : (0 : Int) < (s.size : Int) := by omega
  have HRn := fun W => Lib.hid (refRun_any s (by omega) W)
  have HLt := fun W => Lib.hid (refLetter_any (s[0].toNat : Int) W)
  have hrl := runN_list s
  have HCn := Lib.hid hr
  by_cases hl : letB s[0].toNat = true
  · have hpos : 1 ≤ runN s.data.toList := by rw [hr]; exact runN_pos (.inl hl)
    have HT : Hid (tokV 0 s.data.toList = .ok (⟨if wordB 18 (s.data.toList.take (runN s.data.toList)) = true then 2 else 1, bytes (s.data.toList.take (runN s.data.toList)), 0, 0 + runN s.data.toList, 0⟩, runN s.data.toList)) := Lib.hid (by
      have := tok_name (p := 0) (c := s[0]) (r := r) hl
      rw [← hr] at this
      exact this)
    have HE := Lib.hid (ext_take s (runN s.data.toList))
    obtain ⟨k, hk⟩ : ∃ k, runN s.data.toList = k := ⟨_, rfl⟩
    rw [hk] at HRn HT HE hpos hrl
    have HW := fun W => Lib.hid (refWord_any (s.extract 0 k) W)
    have hkw : key8 (s.extract 0 k) = s.data.toList.take k := by rw [HE.out, key_bytes]
    rw [hkw] at HW
    rw [hl] at HLt
    obtain ⟨wb, hwb⟩ : ∃ b, wordB 18 (s.data.toList.take k) = b := ⟨_, rfl⟩
    rw [hwb] at HW HT
    rw [← HE.out] at HT
    have hki : (0 : Int) < (k : Int) := by omega
    have hki2 : (k : Int) ≤ (s.size : Int) := by omega
    clear hr hk hkw hwb HE
    cases wb
    · go_enter Tryd.func24, Tryd.ntmps24
      go_wp2_with fail
      refine ((HRn _).out).mono ?_
      rintro e w1 ⟨rfl, rfl⟩
      go_wp2_with fail
      refine ((HLt _).out).mono ?_
      rintro e w1 ⟨rfl, rfl⟩
      go_wp2_with fail
      refine ((HW _).out).mono ?_
      rintro e w1 ⟨rfl, rfl⟩
      go_wp2
      exact bodyPost_ret (v := .tuple #[.agg #[.int .i64 1, .string (s.extract 0 k), .int .i64 0, .int .i64 0, .int .i64 0], .int .i64 (k : Int), .int .i64 0]) (by simp [results, Tryd.results24, go_sem]) rfl (.ok ⟨1, s.extract 0 k, 0, 0 + (k : Int), 0⟩ k _ HT.out (by repeat (first | exact Below.refl _ _ | refine Below.alloc ?_ (by simp; try omega) _ | refine Below.setCell ?_ (by simp) _)))
    · go_enter Tryd.func24, Tryd.ntmps24
      go_wp2_with fail
      refine ((HRn _).out).mono ?_
      rintro e w1 ⟨rfl, rfl⟩
      go_wp2_with fail
      refine ((HLt _).out).mono ?_
      rintro e w1 ⟨rfl, rfl⟩
      go_wp2_with fail
      refine ((HW _).out).mono ?_
      rintro e w1 ⟨rfl, rfl⟩
      go_wp2
      exact bodyPost_ret (v := .tuple #[.agg #[.int .i64 2, .string (s.extract 0 k), .int .i64 0, .int .i64 0, .int .i64 0], .int .i64 (k : Int), .int .i64 0]) (by simp [results, Tryd.results24, go_sem]) rfl (.ok ⟨2, s.extract 0 k, 0, 0 + (k : Int), 0⟩ k _ HT.out (by repeat (first | exact Below.refl _ _ | refine Below.alloc ?_ (by simp; try omega) _ | refine Below.setCell ?_ (by simp) _)))
  · have hl0 : letB s[0].toNat = false := by simpa using hl
    rw [hl0] at HLt
    by_cases hd : digB s[0].toNat = true
    · have hpos : 1 ≤ runN s.data.toList := by rw [hr]; exact runN_pos (.inr hd)
      have HT : Hid (tokV 0 s.data.toList = if (NumM.numV (s.data.toList.take (runN s.data.toList))).2 = true then .ok (⟨3, bytes (s.data.toList.take (runN s.data.toList)), 0, 0 + runN s.data.toList, (NumM.numV (s.data.toList.take (runN s.data.toList))).1⟩, runN s.data.toList) else .error 51) := Lib.hid (by
        have := tok_num (p := 0) (c := s[0]) (r := r) hl0 hd
        rw [← hr] at this
        exact this)
      have HE := Lib.hid (ext_take s (runN s.data.toList))
      obtain ⟨k, hk⟩ : ∃ k, runN s.data.toList = k := ⟨_, rfl⟩
      rw [hk] at HRn HT HE hpos hrl
      have hsz : (s.extract 0 k).size = k := by simp; omega
      have HW := fun W => Lib.hid (NumD.refNumber_any (s.extract 0 k) W (by omega))
      have hkw : (s.extract 0 k).data.toList = s.data.toList.take k := by rw [HE.out]; simp [bytes]
      rw [hkw] at HW
      obtain ⟨nv, hnv⟩ : ∃ b, (NumM.numV (s.data.toList.take k)).1 = b := ⟨_, rfl⟩
      obtain ⟨ok, hok⟩ : ∃ b, (NumM.numV (s.data.toList.take k)).2 = b := ⟨_, rfl⟩
      rw [hnv, hok] at HW HT
      rw [← HE.out] at HT
      have hki : (0 : Int) < (k : Int) := by omega
      have hki2 : (k : Int) ≤ (s.size : Int) := by omega
      clear hr hk hkw hnv hok HE hsz
      cases ok
      · have HT2 : Hid (tokV 0 s.data.toList = .error 51) := Lib.hid (by rw [HT.out]; rfl)
        clear HT
        go_enter Tryd.func24, Tryd.ntmps24
        go_wp2_with fail
        refine ((HRn _).out).mono ?_
        rintro e w1 ⟨rfl, rfl⟩
        go_wp2_with fail
        refine ((HLt _).out).mono ?_
        rintro e w1 ⟨rfl, rfl⟩
        go_wp2_with fail
        refine ((HW _).out).mono ?_
        rintro e w1 ⟨rfl, rfl⟩
        go_wp2
        exact bodyPost_ret (v := .tuple #[.agg #[.int .i64 0, .string ⟨#[]⟩, .int .i64 0, .int .i64 0, .int .i64 0], .int .i64 0, .int .i64 51]) (by simp [results, Tryd.results24, go_sem]) rfl (.err 51 _ HT2.out (by decide) (by repeat (first | exact Below.refl _ _ | refine Below.alloc ?_ (by simp; try omega) _ | refine Below.setCell ?_ (by simp) _)))
      · have HT2 : Hid (tokV 0 s.data.toList = .ok (⟨3, s.extract 0 k, 0, 0 + (k : Int), nv⟩, k)) := Lib.hid (by rw [HT.out]; rfl)
        clear HT
        go_enter Tryd.func24, Tryd.ntmps24
        go_wp2_with fail
        refine ((HRn _).out).mono ?_
        rintro e w1 ⟨rfl, rfl⟩
        go_wp2_with fail
        refine ((HLt _).out).mono ?_
        rintro e w1 ⟨rfl, rfl⟩
        go_wp2_with fail
        refine ((HW _).out).mono ?_
        rintro e w1 ⟨rfl, rfl⟩
        go_wp2
        exact bodyPost_ret (v := .tuple #[.agg #[.int .i64 3, .string (s.extract 0 k), .int .i64 0, .int .i64 0, .int .i64 nv], .int .i64 (k : Int), .int .i64 0]) (by simp [results, Tryd.results24, go_sem]) rfl (.ok ⟨3, s.extract 0 k, 0, 0 + (k : Int), nv⟩ k _ HT2.out (by repeat (first | exact Below.refl _ _ | refine Below.alloc ?_ (by simp; try omega) _ | refine Below.setCell ?_ (by simp) _)))
    · have hd0 : digB s[0].toNat = false := by simpa using hd
      have hrz : runN s.data.toList = 0 := by rw [hr]; exact run_zero hl0 hd0
      rw [hrz] at HRn
      clear hrl HLt
      obtain ⟨n, hn⟩ : ∃ n, s[0].toNat = n := ⟨_, rfl⟩
      have hU : s[0] = UInt8.ofNat n := by rw [← hn]; simp
      by_cases h34 : n = 34
      · subst h34
        have HT : Hid (tokV 0 s.data.toList = match bodyK 0 (s.data.toList.drop 1) with
            | some (x, n) => .ok (⟨4, bytes x, 0, 0 + (n + 1 : Nat), 0⟩, n + 1)
            | none => .error 52) := Lib.hid (by
          have := tok_quote (p := 0) (c := s[0]) (r := r) hl0 hd0 (by rw [hU]; rfl)
          rw [← hr] at this
          rw [this, hr]
          rfl)
        have HX := fun W => Lib.hid (refText_any s h0 hs W)
        clear hr hU hl hl0 hd hd0 hrz
        go_enter Tryd.func24, Tryd.ntmps24
        go_wp2_with fail
        refine ((HRn _).out).mono ?_
        rintro e w1 ⟨rfl, rfl⟩
        go_wp2_with fail
        refine ((HX _).out).mono ?_
        intro e w2 htx
        have HR0 := Has.new w 36 [.int .i64 0, .string ⟨#[]⟩, .int .i64 0, .int .i64 0, .int .i64 0]
        cases htx with
        | yes x n _ hb hbl =>
          have q := HR0.below hbl HR0.lt
          have c0 := q.cell 0
          have c1 := q.cell 1
          have c2 := q.cell 2
          have c3 := q.cell 3
          have c4 := q.cell 4
          have f0 := q.frozen 0
          have f1 := q.frozen 1
          have f2 := q.frozen 2
          have f3 := q.frozen 3
          have f4 := q.frozen 4
          have ql := q.lt
          simp at c0 c1 c2 c3 c4
          have HB : Hid (Below w.heap.size w w2) := Lib.hid (((Below.refl _ w).alloc (Nat.le_refl _) _).trans (hbl.mono (by simp)))
          have HT2 : Hid (tokV 0 s.data.toList = .ok (⟨4, bytes x, 0, 0 + (n + 1 : Nat), 0⟩, n + 1)) := Lib.hid (by rw [HT.out, hb])
          clear HT HR0 q hb hbl
          go_wp2
          refine bodyPost_ret (v := .tuple #[.agg #[.int .i64 4, .string (bytes x), .int .i64 0, .int .i64 0, .int .i64 0], .int .i64 ((n : Int) + 1), .int .i64 0]) (by simp [results, Tryd.results24, go_sem, c0, c1, c2, c3, c4]) rfl ?_
          have hx := TokIs.ok (w := w) (l := s.data.toList) ⟨4, bytes x, 0, 0 + (n + 1 : Nat), 0⟩ (n + 1) (((((w2.setCell ⟨w.heap.size, 0, none⟩ (.int .i64 4)).setCell ⟨w.heap.size, 1, none⟩ (.string (bytes x))).setCell ⟨w.heap.size, 2, none⟩ (.int .i64 0)).setCell ⟨w.heap.size, 3, none⟩ (.int .i64 0)).setCell ⟨w.heap.size, 4, none⟩ (.int .i64 0)) HT2.out (by repeat (first | exact HB.out | refine Below.setCell ?_ (by simp) _))
          rw [Int.natCast_add] at hx
          exact hx
        | no _ hb hbl =>
          have q := HR0.below hbl HR0.lt
          have c0 := q.cell 0
          have c1 := q.cell 1
          have c2 := q.cell 2
          have c3 := q.cell 3
          have c4 := q.cell 4
          have f0 := q.frozen 0
          have f1 := q.frozen 1
          have f2 := q.frozen 2
          have f3 := q.frozen 3
          have f4 := q.frozen 4
          have ql := q.lt
          simp at c0 c1 c2 c3 c4
          have HB : Hid (Below w.heap.size w w2) := Lib.hid (((Below.refl _ w).alloc (Nat.le_refl _) _).trans (hbl.mono (by simp)))
          have HT2 : Hid (tokV 0 s.data.toList = .error 52) := Lib.hid (by rw [HT.out, hb])
          clear HT HR0 q hb hbl
          go_wp2
          exact bodyPost_ret (v := .tuple #[.agg #[.int .i64 0, .string ⟨#[]⟩, .int .i64 0, .int .i64 0, .int .i64 0], .int .i64 0, .int .i64 52]) (by simp [results, Tryd.results24, go_sem, c0, c1, c2, c3, c4]) rfl (.err 52 _ HT2.out (by decide) (by repeat (first | exact HB.out | refine Below.setCell ?_ (by simp) _)))
      · have h34b : ((n : Int) == 34) = false := by simp; omega
        have HT : Hid (tokV 0 s.data.toList = if signN s.data.toList = 0 then .error 50 else .ok (⟨5, bytes (s.data.toList.take (signN s.data.toList)), 0, 0 + signN s.data.toList, 0⟩, signN s.data.toList)) := Lib.hid (by
          have := tok_sign (p := 0) (c := s[0]) (r := r) hl0 hd0 (by
            rw [hU]
            intro h
            have := congrArg UInt8.toNat h
            have h3 := UInt8.toNat_lt s[0]
            rw [hn] at h3
            simp at this
            omega)
          rw [← hr] at this
          exact this)
        have HSg := fun W => Lib.hid (refSign_any s h0 (by omega) W)
        have hsl := signN_le s.data.toList
        have HE := Lib.hid (ext_take s (signN s.data.toList))
        obtain ⟨k, hk⟩ : ∃ k, signN s.data.toList = k := ⟨_, rfl⟩
        rw [hk] at HSg HT HE hsl
        have hki2 : (k : Int) ≤ (s.size : Int) := by
          have : k ≤ s.size := by simpa using hsl
          omega
        rw [← HE.out] at HT
        clear hr hU hl hl0 hd hd0 hrz hk HE hsl
        by_cases hk0 : k = 0
        · subst hk0
          have HT2 : Hid (tokV 0 s.data.toList = .error 50) := Lib.hid (by rw [HT.out]; rfl)
          clear HT
          go_enter Tryd.func24, Tryd.ntmps24
          go_wp2_with fail
          refine ((HRn _).out).mono ?_
          rintro e w1 ⟨rfl, rfl⟩
          go_wp2_with fail
          refine ((HSg _).out).mono ?_
          rintro e w1 ⟨rfl, rfl⟩
          go_wp2
          exact bodyPost_ret (v := .tuple #[.agg #[.int .i64 0, .string ⟨#[]⟩, .int .i64 0, .int .i64 0, .int .i64 0], .int .i64 0, .int .i64 50]) (by simp [results, Tryd.results24, go_sem]) rfl (.err 50 _ HT2.out (by decide) (by repeat (first | exact Below.refl _ _ | refine Below.alloc ?_ (by simp; try omega) _ | refine Below.setCell ?_ (by simp) _)))
        · have HT2 : Hid (tokV 0 s.data.toList = .ok (⟨5, s.extract 0 k, 0, 0 + (k : Int), 0⟩, k)) := Lib.hid (by rw [HT.out, if_neg hk0])
          have hki : (0 : Int) < (k : Int) := by omega
          clear HT
          go_enter Tryd.func24, Tryd.ntmps24
          go_wp2_with fail
          refine ((HRn _).out).mono ?_
          rintro e w1 ⟨rfl, rfl⟩
          go_wp2_with fail
          refine ((HSg _).out).mono ?_
          rintro e w1 ⟨rfl, rfl⟩
          go_wp2
          exact bodyPost_ret (v := .tuple #[.agg #[.int .i64 5, .string (s.extract 0 k), .int .i64 0, .int .i64 0, .int .i64 0], .int .i64 (k : Int), .int .i64 0]) (by simp [results, Tryd.results24, go_sem]) rfl (.ok ⟨5, s.extract 0 k, 0, 0 + (k : Int), 0⟩ k _ HT2.out (by repeat (first | exact Below.refl _ _ | refine Below.alloc ?_ (by simp; try omega) _ | refine Below.setCell ?_ (by simp) _)))
end LexD
end Go.Proofs.YthlclmjcdpffbaaDoor
