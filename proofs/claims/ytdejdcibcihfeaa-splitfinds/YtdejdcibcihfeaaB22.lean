/- Contracts: key.Take, and the page's own. -/
import Derived.Test.YtdejdcibcihfeaaB21
namespace Go.Proofs.Ytdejdcibcihfeaa
open Go.RowKit
set_option linter.unusedVariables false
set_option maxRecDepth 100000

set_option maxHeartbeats 400000 in
theorem text_any (s : ByteArray) (w : World) (hs : s.size ≤ maxLen) :
    Calls Try.prog 37 #[.string s] w fun e w' => e = .returned (.tuple #[.string (textOf s).1, .int .i64 (textOf s).2.1, .int .i64 (textOf s).2.2]) ∧ w' = w := by
  have ht := fun W => take_any s W hs
  unfold textOf
  obtain ⟨m, n, e, he⟩ : ∃ m n e, takeOf s = (m, n, e) := ⟨_, _, _, rfl⟩
  have hback := take_back s m n
  rw [he] at hback ht ⊢
  simp only at ht ⊢
  unfold maxLen at hs
  by_cases h0 : e = 0
  · subst h0
    obtain ⟨q, rfl, hq, hm1, hm2, hq10⟩ := hback rfl
    replace hq10 : q ≤ 10 := by
      have := bytes_len m
      rw [hq10, ByteArray.size_extract] at this
      omega
    clear hback he
    simp only [ne_eq, not_true_eq_false, if_false]
    by_cases hneg : m < 0
    · rw [if_pos (.inl hneg)]
      go_enter Try.func37, Try.ntmps37
      go_wp2_with (go_at_call 36; refine (ht _).mono ?_; rintro e w' ⟨rfl, rfl⟩)
      go_ret3
      exact ⟨rfl, rfl⟩
    by_cases hbig : 64 < m
    · rw [if_pos (.inr hbig)]
      go_enter Try.func37, Try.ntmps37
      go_wp2_with (go_at_call 36; refine (ht _).mono ?_; rintro e w' ⟨rfl, rfl⟩)
      go_ret3
      exact ⟨rfl, rfl⟩
    rw [if_neg (by omega)]
    obtain ⟨p, rfl⟩ : ∃ p : Nat, m = (p : Int) := ⟨m.toNat, by omega⟩
    by_cases hcut : s.size < q + p
    · rw [if_pos (by omega)]
      have hd : decide ((s.size : Int) < ((q + p : Nat) : Int)) = true := by simp; omega
      go_enter Try.func37, Try.ntmps37
      go_wp2_with (go_at_call 36; refine (ht _).mono ?_; rintro e w' ⟨rfl, rfl⟩)
      go_ret3
      exact ⟨rfl, rfl⟩
    · rw [if_neg (by omega)]
      have hd : decide ((s.size : Int) < ((q + p : Nat) : Int)) = false := by simp; omega
      go_enter Try.func37, Try.ntmps37
      go_wp2_with (go_at_call 36; refine (ht _).mono ?_; rintro e w' ⟨rfl, rfl⟩)
      go_ret3
      exact ⟨rfl, rfl⟩
  · simp only [ne_eq, h0, not_false_eq_true, if_true]
    go_enter Try.func37, Try.ntmps37
    go_wp2_with (go_at_call 36; refine (ht _).mono ?_; rintro e w' ⟨rfl, rfl⟩)
    go_ret3
    exact ⟨rfl, rfl⟩

theorem q10 {s : ByteArray} {m j : Int} (h : takeOf s = (m, j, 0)) : ∃ q : Nat, j = (q : Int) ∧ q ≤ s.size ∧ q ≤ 10 ∧ -9223372036854775808 ≤ m ∧ m ≤ 9223372036854775807 := by
  obtain ⟨q, e, hq, h1, h2, h3⟩ := take_back s m j h
  refine ⟨q, e, hq, ?_, h1, h2⟩
  have := bytes_len m
  rw [h3, ByteArray.size_extract] at this
  omega
theorem text10 (s : ByteArray) : 0 ≤ (textOf s).2.1 ∧ (textOf s).2.1 ≤ 74 := by
  unfold textOf
  split
  · simp
  · next h0 =>
    have h0 : (takeOf s).2.2 = 0 := by simpa using h0
    obtain ⟨q, e, hq, hq1, _⟩ := q10 (s := s) (m := (takeOf s).1) (j := (takeOf s).2.1) (by rw [← h0])
    split
    · simp
    · split
      · simp
      · simp only; omega

theorem results_cell3 {P : Program} {fn : Func} {t u v : Tmp} {T : TypeId} {a : Addr} {x : Value} (h : fn.results = #[.cell t T, .tmp u, .tmp v]) {tmps : Array Value} {w : World} (hp : tmps.getD t undef = .pointer (some a)) (hl : (loadVar T a).run P w = .ok x w) :
    (results fn tmps).run P w = .ok (.tuple #[x, tmps.getD u undef, tmps.getD v undef]) w := by
  have hp' : tmps[t]?.getD undef = .pointer (some a) := by simpa using hp
  simp [results, h, hp', hl, asAddr]
theorem loadK {W : World} {b o : Nat} {a : Int} {s : ByteArray} (h0 : W.cell? ⟨b, o, none⟩ = some (.int .i64 a)) (h1 : W.cell? ⟨b, o + 1, none⟩ = some (.string s)) : (loadVar 60 ⟨b, o, none⟩).run Try.prog W = .ok (.agg #[.int .i64 a, .string s]) W := by
  have a30 := Try.isAgg60
  have z30 := Try.sizeOf60
  have hc := run_loadCells_list (P := Try.prog) W ⟨b, o, none⟩ [.int .i64 a, .string s] (fun j v hj => by
    match j, hj with
    | 0, hj => simp at hj; subst hj; simpa [Addr.add] using h0
    | 1, hj => simp at hj; subst hj; simpa [Addr.add] using h1)
  simp [loadVar, a30, z30]
  have hc' : (loadCells ⟨b, o, none⟩ 2).run Try.prog W = .ok #[.int .i64 a, .string s] W := hc
  rw [hc']
  rfl

set_option maxHeartbeats 400000 in
theorem ktake_any (s : ByteArray) (w : World) (hs : s.size ≤ maxLen) :
    Calls Try.prog 35 #[.string s] w fun e w' => e = .returned (.tuple #[.agg #[.int .i64 (kTake s).1.1, .string (kTake s).1.2], .int .i64 (kTake s).2.1, .int .i64 (kTake s).2.2]) ∧ Below w.heap.size w w' := by
  have ht := fun W => take_any s W hs
  unfold kTake
  obtain ⟨m, n, e, he⟩ : ∃ m n e, takeOf s = (m, n, e) := ⟨_, _, _, rfl⟩
  have hback := @q10 s m n
  rw [he] at hback ht ⊢
  simp only at ht ⊢
  by_cases h0 : e = 0
  · subst h0
    obtain ⟨q, rfl, hq, hq10, hm1, hm2⟩ := hback rfl
    clear hback he
    simp only [ne_eq, not_true_eq_false, if_false]
    have hx := fun W => text_any (s.extract q s.size) W (by rw [ByteArray.size_extract]; omega)
    have h74 := text10 (s.extract q s.size)
    simp only [from', Int.toNat_natCast]
    obtain ⟨b, k, f, hr⟩ : ∃ b k f, textOf (s.extract q s.size) = (b, k, f) := ⟨_, _, _, rfl⟩
    simp only [hr] at hx h74 ⊢
    clear hr
    by_cases h1 : f = 0
    · subst h1
      simp only [not_true_eq_false, if_false]
      go_enter Try.func35, Try.ntmps35
      go_wp2_with (first | (go_at_call 36; refine (ht _).mono ?_; rintro e w' ⟨rfl, rfl⟩) | (go_at_call 37; refine (hx _).mono ?_; rintro e w' ⟨rfl, rfl⟩))
      exact bodyPost_ret (results_cell3 rfl rfl (loadK (boxed w _ _ _).2.2.1 (boxed w _ _ _).2.2.2)) rfl ⟨rfl, (boxed w _ _ _).1⟩
    · simp only [h1, not_false_eq_true, if_true]
      go_enter Try.func35, Try.ntmps35
      go_wp2_with (first | (go_at_call 36; refine (ht _).mono ?_; rintro e w' ⟨rfl, rfl⟩) | (go_at_call 37; refine (hx _).mono ?_; rintro e w' ⟨rfl, rfl⟩))
      exact bodyPost_ret (results_cell3 rfl rfl (loadK (boxed w _ _ _).2.2.1 (boxed w _ _ _).2.2.2)) rfl ⟨rfl, (boxed w _ _ _).1⟩
  · simp only [ne_eq, h0, not_false_eq_true, if_true]
    go_enter Try.func35, Try.ntmps35
    go_wp2_with (go_at_call 36; refine (ht _).mono ?_; rintro e w' ⟨rfl, rfl⟩)
    exact bodyPost_ret (results_cell3 rfl rfl (loadK (boxed w _ _ _).2.2.1 (boxed w _ _ _).2.2.2)) rfl ⟨rfl, (boxed w _ _ _).1⟩

def Sm (s : ByteArray) : Prop := s.size ≤ maxLen
theorem rtake_ok (s : ByteArray) (w : World) (hs : Sm s) :
    Calls Try.prog 34 #[.string s] w fun e w' => e = .returned (.tuple #[.int .i64 (takeOf s).1, .int .i64 (takeOf s).2.1, .int .i64 (takeOf s).2.2]) ∧ w' = w := rtake_any s w hs
set_option maxHeartbeats 400000 in
/-- The page's own Take. -/
theorem rtake3_any (s : ByteArray) (w : World) (hs : s.size ≤ maxLen) :
    Calls Try.prog 33 #[.string s] w fun e w' => e = .returned (.tuple #[.agg #[.int .i64 (kTake s).1.1, .string (kTake s).1.2], .int .i64 (kTake s).2.1, .int .i64 (kTake s).2.2]) ∧ Below w.heap.size w w' := by
  have s1 : Sm s := hs
  unfold kTake
  obtain ⟨m, n, e, he⟩ : ∃ m n e, takeOf s = (m, n, e) := ⟨_, _, _, rfl⟩
  have hback := @q10 s m n
  rw [he] at hback ⊢
  simp only
  by_cases h0 : e = 0
  · subst h0
    obtain ⟨q, rfl, hq, hq10, hm1, hm2⟩ := hback rfl
    clear hback
    simp only [ne_eq, not_true_eq_false, if_false]
    have s2 : Sm (s.extract q s.size) := by unfold Sm; rw [ByteArray.size_extract]; omega
    have hz : (s.extract q s.size).size = s.size - q := by rw [ByteArray.size_extract]; omega
    simp only [from', Int.toNat_natCast, textOf]
    obtain ⟨m2, n2, e2, he2⟩ : ∃ m n e, takeOf (s.extract q s.size) = (m, n, e) := ⟨_, _, _, rfl⟩
    have hback2 := @q10 (s.extract q s.size) m2 n2
    rw [he2] at hback2
    simp only [he2]
    by_cases h1 : e2 = 0
    · subst h1
      obtain ⟨q2, rfl, hq2, hq102, hm12, hm22⟩ := hback2 rfl
      clear hback2
      simp only [ne_eq, not_true_eq_false, if_false]
      by_cases hneg : m2 < 0
      · simp only [hneg, true_or, if_true]
        go_enter Try.func33, Try.ntmps33
        go_wp2_with (go_at_call 34; refine (rtake_ok _ _ (by assumption)).mono ?_; rintro e w' ⟨rfl, rfl⟩)
        exact bodyPost_ret (results_cell3 rfl rfl (loadK (boxed w _ _ _).2.2.1 (boxed w _ _ _).2.2.2)) rfl ⟨rfl, (boxed w _ _ _).1⟩
      · by_cases hbig : 64 < m2
        · simp only [hbig, or_true, if_true]
          go_enter Try.func33, Try.ntmps33
          go_wp2_with (go_at_call 34; refine (rtake_ok _ _ (by assumption)).mono ?_; rintro e w' ⟨rfl, rfl⟩)
          exact bodyPost_ret (results_cell3 rfl rfl (loadK (boxed w _ _ _).2.2.1 (boxed w _ _ _).2.2.2)) rfl ⟨rfl, (boxed w _ _ _).1⟩
        · simp only [hneg, hbig, or_false, if_false]
          obtain ⟨p, rfl⟩ : ∃ p : Nat, m2 = (p : Int) := ⟨m2.toNat, by omega⟩
          unfold maxLen at hs
          by_cases hcut : s.size - q < q2 + p
          · have hd : ((s.extract q s.size).size : Int) < (q2 : Int) + (p : Int) := by rw [hz]; omega
            simp only [hd, if_true]
            go_enter Try.func33, Try.ntmps33
            go_wp2_with (go_at_call 34; refine (rtake_ok _ _ (by assumption)).mono ?_; rintro e w' ⟨rfl, rfl⟩)
            exact bodyPost_ret (results_cell3 rfl rfl (loadK (boxed w _ _ _).2.2.1 (boxed w _ _ _).2.2.2)) rfl ⟨rfl, (boxed w _ _ _).1⟩
          · have hd : ¬ ((s.extract q s.size).size : Int) < (q2 : Int) + (p : Int) := by rw [hz]; omega
            have hxx : (s.extract q s.size).extract q2 (q2 + p) = s.extract (q + q2) (q + q2 + p) := by
              apply ba_ext
              show L _ = L _
              simp only [L_ext, List.drop_take, List.take_take, List.drop_drop]
              congr 1
              · omega
            simp only [hd, if_false]
            have e5 : ((q2 : Int) + (p : Int)).toNat = q2 + p := by omega
            rw [e5, Int.toNat_natCast, hxx, ← Int.add_assoc]
            go_enter Try.func33, Try.ntmps33
            go_wp2_with (go_at_call 34; refine (rtake_ok _ _ (by assumption)).mono ?_; rintro e w' ⟨rfl, rfl⟩)
            exact bodyPost_ret (results_cell3 rfl rfl (loadK (boxed w _ _ _).2.2.1 (boxed w _ _ _).2.2.2)) rfl ⟨rfl, (boxed w _ _ _).1⟩
    · simp only [ne_eq, h1, not_false_eq_true, if_true]
      go_enter Try.func33, Try.ntmps33
      go_wp2_with (go_at_call 34; refine (rtake_ok _ _ (by assumption)).mono ?_; rintro e w' ⟨rfl, rfl⟩)
      exact bodyPost_ret (results_cell3 rfl rfl (loadK (boxed w _ _ _).2.2.1 (boxed w _ _ _).2.2.2)) rfl ⟨rfl, (boxed w _ _ _).1⟩
  · simp only [ne_eq, h0, not_false_eq_true, if_true]
    go_enter Try.func33, Try.ntmps33
    go_wp2_with (go_at_call 34; refine (rtake_ok _ _ (by assumption)).mono ?_; rintro e w' ⟨rfl, rfl⟩)
    exact bodyPost_ret (results_cell3 rfl rfl (loadK (boxed w _ _ _).2.2.1 (boxed w _ _ _).2.2.2)) rfl ⟨rfl, (boxed w _ _ _).1⟩
end Go.Proofs.Ytdejdcibcihfeaa
