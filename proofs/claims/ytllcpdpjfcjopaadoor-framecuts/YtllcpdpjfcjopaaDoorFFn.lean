/- Contracts: frame.Bytes, frame.Take, and the page's own. -/
import Derived.Test.YtllcpdpjfcjopaaDoorFPlain
import Derived.Test.YtllcpdpjfcjopaaDoorHalvesL
namespace Go.Proofs.YtllcpdpjfcjopaaDoor
open Go.RowKit
set_option linter.unusedVariables false

theorem bel_next {w w1 w2 : World} (h : Below w.heap.size w w1) (h2 : Below w1.heap.size w1 w2) : Below w.heap.size w w2 := h.trans (h2.mono h.size)
theorem bel_drewN {w w1 : World} (h : Below w.heap.size w w1) (q : Nat) : Below w.heap.size w (w1.drewN q) := bel_next h (below_draws w1 q)
theorem sum5_any (s : ByteArray) (w : World) (hs : s.size ≤ maxLen) (h : Halves w) : Calls Tryd.prog 23 #[.string s] w fun e w' => e = .returned (.int .u32 (fSum s)) ∧ w' = w := sum_any s w hs h
theorem rsum5_any (s : ByteArray) (w : World) (hs : s.size ≤ maxLen) : Calls Tryd.prog 20 #[.string s] w fun e w' => e = .returned (.int .u32 (fSum s)) ∧ w' = w := rsum_any s w hs

theorem sumOf_any (a s : ByteArray) (w : World) (hs : a.size + s.size ≤ 100000) (h : Halves w) :
    Calls Tryd.prog 18 #[.string a, .string s] w fun e w' => e = .returned (.int .u32 (fSum (a ++ s))) ∧ w' = w := by
  have hadd : ∀ W, (Op.stringOp .add a s).run Tryd.prog W = .ok (.string (a ++ s)) W := fun W => run_string_add_sum W _ _ (by omega)
  go_enter Tryd.func18, Tryd.ntmps18
  go_wp2_with (go_at_call 23; refine (sum5_any _ _ (by rw [ByteArray.size_append]; unfold maxLen; omega) h).mono ?_; rintro e w' ⟨rfl, rfl⟩)
  go_ret
  exact ⟨rfl, rfl⟩

theorem fbytes_big (s : ByteArray) (w : World) (hs : 32768 < s.size) :
    Calls Tryd.prog 6 #[.string s] w fun e w' => e = .returned (.tuple #[.string ⟨#[]⟩, .int .i64 2]) ∧ w' = w := by
  have hd : decide (32768 < (s.size : Int)) = true := decide_eq_true (by omega)
  go_enter Tryd.func6, Tryd.ntmps6
  go_wp2
  go_ret2
  exact ⟨rfl, rfl⟩

set_option maxRecDepth 100000 in
theorem fbytes_ok (s : ByteArray) (w : World) (hs : s.size ≤ 32768) (h : Halves w) :
    Calls Tryd.prog 6 #[.string s] w fun e w' => e = .returned (.tuple #[.string (frameOf s), .int .i64 0]) ∧ Below w.heap.size w w' := by
  have hd : decide (32768 < (s.size : Int)) = false := decide_eq_false (by omega)
  have l4 := four_size (s.size : Int)
  have hl := fSum_lt (four (s.size : Int) ++ s)
  have l8 := four_size (fSum (four (s.size : Int) ++ s))
  have hadd : ∀ W, (Op.stringOp .add (four (s.size : Int)) (four (fSum (four (s.size : Int) ++ s)))).run Tryd.prog W = .ok (.string (four (s.size : Int) ++ four (fSum (four (s.size : Int) ++ s)))) W := fun W => run_string_add_sum W _ _ (by omega)
  have hadd2 : ∀ W, (Op.stringOp .add (four (s.size : Int) ++ four (fSum (four (s.size : Int) ++ s))) s).run Tryd.prog W = .ok (.string (four (s.size : Int) ++ four (fSum (four (s.size : Int) ++ s)) ++ s)) W := fun W => run_string_add_sum W _ _ (by rw [ByteArray.size_append]; omega)
  have h4 := fun W => four_any (s.size : Int) W (by omega) (by omega)
  have h5 := fun W (hW : Halves W) => sumOf_any (four (s.size : Int)) s W (by omega) hW
  have h6 := fun W => four_any (fSum (four (s.size : Int) ++ s)) W hl.1 hl.2
  unfold frameOf
  go_enter Tryd.func6, Tryd.ntmps6
  go_wp2_with fail
  refine (h4 _).mono ?_
  rintro e w1 ⟨rfl, hb1⟩
  have hh := h.below hb1 h.pos
  clear h4
  go_wp2_with fail
  refine (h5 _ hh).mono ?_
  rintro e w2 ⟨rfl, hw2⟩
  subst hw2
  clear h5
  go_wp2_with fail
  refine (h6 _).mono ?_
  rintro e w2 ⟨rfl, hb2⟩
  clear h6
  go_wp2_with fail
  go_ret2
  exact ⟨rfl, bel_next hb1 hb2⟩

set_option maxRecDepth 100000 in
theorem rframe_any (s : ByteArray) (w : World) (hs : s.size ≤ 32768) :
    Calls Tryd.prog 8 #[.string s] w fun e w' => e = .returned (.string (frameOf s)) ∧ Below w.heap.size w w' := by
  have l4 := four_size (s.size : Int)
  have hl := fSum_lt (four (s.size : Int) ++ s)
  have l8 := four_size (fSum (four (s.size : Int) ++ s))
  have hadd0 : ∀ W, (Op.stringOp .add (four (s.size : Int)) s).run Tryd.prog W = .ok (.string (four (s.size : Int) ++ s)) W := fun W => run_string_add_sum W _ _ (by omega)
  have hadd : ∀ W, (Op.stringOp .add (four (s.size : Int)) (four (fSum (four (s.size : Int) ++ s)))).run Tryd.prog W = .ok (.string (four (s.size : Int) ++ four (fSum (four (s.size : Int) ++ s)))) W := fun W => run_string_add_sum W _ _ (by omega)
  have hadd2 : ∀ W, (Op.stringOp .add (four (s.size : Int) ++ four (fSum (four (s.size : Int) ++ s))) s).run Tryd.prog W = .ok (.string (four (s.size : Int) ++ four (fSum (four (s.size : Int) ++ s)) ++ s)) W := fun W => run_string_add_sum W _ _ (by rw [ByteArray.size_append]; omega)
  have h4 := fun W => rfour_any (s.size : Int) W (by omega) (by omega)
  have h5 := fun W => rsum5_any (four (s.size : Int) ++ s) W (by rw [ByteArray.size_append]; unfold maxLen; omega)
  have h6 := fun W => rfour_any (fSum (four (s.size : Int) ++ s)) W hl.1 hl.2
  unfold frameOf
  go_enter Tryd.func8, Tryd.ntmps8
  go_wp2_with fail
  refine (h4 _).mono ?_
  rintro e w1 ⟨rfl, hb1⟩
  clear h4
  go_wp2_with fail
  refine (h5 _).mono ?_
  rintro e w2 ⟨rfl, hw2⟩
  subst hw2
  clear h5
  go_wp2_with fail
  refine (h6 _).mono ?_
  rintro e w2 ⟨rfl, hb2⟩
  clear h6
  go_wp2_with fail
  go_ret
  exact ⟨rfl, bel_next hb1 hb2⟩

/-- What Take answers, of a place. -/
def TakePost (s : ByteArray) (w : World) (e : Ending) (w' : World) : Prop := e = .returned (.tuple #[.string (fTake s).1, .int .i64 (fTake s).2.1, .int .i64 (fTake s).2.2]) ∧ Below w.heap.size w w'
theorem take_of {s t : ByteArray} {j e : Int} (h : fTake s = (t, j, e)) (w w' : World) (hb : Below w.heap.size w w') : TakePost s w (.returned (.tuple #[.string t, .int .i64 j, .int .i64 e])) w' := by
  unfold TakePost; rw [h]; exact ⟨rfl, hb⟩

set_option maxRecDepth 100000 in
set_option maxHeartbeats 400000 in
theorem ftake_any (s : ByteArray) (w : World) (hs : s.size ≤ 100000) (h : Halves w) :
    Calls Tryd.prog 9 #[.string s] w fun e w' => TakePost s w e w' := by
  by_cases h8 : s.size < 8
  · have hd : decide ((s.size : Int) < 8) = true := decide_eq_true (by omega)
    go_enter Tryd.func9, Tryd.ntmps9
    go_wp2
    go_ret3
    exact take_of (fTake_short h8) _ _ (Below.refl _ _)
  have hd8 : decide ((s.size : Int) < 8) = false := decide_eq_false (by omega)
  obtain ⟨n, hn, hn1⟩ := fourOf_nat s
  obtain ⟨m, hm, hm1⟩ := fourOf_nat (s.extract 4 s.size)
  have ht := fun W => takeFour_in s W (by unfold maxLen; omega) (by omega)
  have ht2 := fun W => takeFour_in (s.extract 4 s.size) W (by rw [ByteArray.size_extract]; unfold maxLen; omega) (by rw [ByteArray.size_extract]; omega)
  rw [hn] at ht
  rw [hm] at ht2
  by_cases hbig : 32768 < n
  · have hE := take_of (fTake_over h8 hn hbig) w
    have hd : decide ((32768 : Int) < (n : Int)) = true := decide_eq_true (by omega)
    clear hn hm
    go_enter Tryd.func9, Tryd.ntmps9
    go_wp2_with fail
    refine (ht _).mono ?_
    rintro e w1 ⟨rfl, hb1⟩
    go_wp2_with fail
    refine (ht2 _).mono ?_
    rintro e w2 ⟨rfl, hb2⟩
    go_wp2_with fail
    go_ret3
    exact hE _ (bel_next hb1 hb2)
  have hdb : decide ((32768 : Int) < (n : Int)) = false := decide_eq_false (by omega)
  by_cases hcut : s.size < 8 + n
  · have hE := take_of (fTake_cut h8 hn hbig hcut) w
    have hd : decide ((s.size : Int) < 8 + (n : Int)) = true := decide_eq_true (by omega)
    clear hn hm
    go_enter Tryd.func9, Tryd.ntmps9
    go_wp2_with fail
    refine (ht _).mono ?_
    rintro e w1 ⟨rfl, hb1⟩
    go_wp2_with fail
    refine (ht2 _).mono ?_
    rintro e w2 ⟨rfl, hb2⟩
    go_wp2_with fail
    go_ret3
    exact hE _ (bel_next hb1 hb2)
  have hdc : decide ((s.size : Int) < 8 + (n : Int)) = false := decide_eq_false (by omega)
  have hs5 := fun W (hW : Halves W) => sumOf_any (s.extract 0 4) (s.extract 8 (8 + n)) W (by rw [ByteArray.size_extract, ByteArray.size_extract]; omega) hW
  have hO := fTake_ok h8 hn hbig hcut
  have hS := fTake_sum h8 hn hbig hcut
  rw [hm] at hO hS
  generalize fSum (s.extract 0 4 ++ s.extract 8 (8 + n)) = c at hs5 hO hS
  clear hn hm
  by_cases hc : c = (m : Int)
  · have hE := take_of (hO hc) w
    have hd : (c == (m : Int)) = true := by simpa using hc
    subst hc
    clear hO hS
    go_enter Tryd.func9, Tryd.ntmps9
    go_wp2_with fail
    refine (ht _).mono ?_
    rintro e w1 ⟨rfl, hb1⟩
    go_wp2_with fail
    refine (ht2 _).mono ?_
    rintro e w2 ⟨rfl, hb2⟩
    have hb := bel_next hb1 hb2
    have hh := h.below hb h.pos
    clear ht ht2 hb1 hb2
    go_wp2_with fail
    go_quiet ((go_at_call 18; exact Calls.quiet_of_same (hs5 _ (by first | exact hh | exact hh.drewN _))))
    go_wp2_with fail
    go_ret3
    exact hE _ (bel_drewN hb _)
  · have hE := take_of (hS hc) w
    have hd : (c == (m : Int)) = false := by simpa using hc
    clear hO hS
    go_enter Tryd.func9, Tryd.ntmps9
    go_wp2_with fail
    refine (ht _).mono ?_
    rintro e w1 ⟨rfl, hb1⟩
    go_wp2_with fail
    refine (ht2 _).mono ?_
    rintro e w2 ⟨rfl, hb2⟩
    have hb := bel_next hb1 hb2
    have hh := h.below hb h.pos
    clear ht ht2 hb1 hb2
    go_wp2_with fail
    go_quiet ((go_at_call 18; exact Calls.quiet_of_same (hs5 _ (by first | exact hh | exact hh.drewN _))))
    go_wp2_with fail
    go_ret3
    exact hE _ (bel_drewN hb _)

set_option maxRecDepth 100000 in
set_option maxHeartbeats 400000 in
theorem rftake_any (s : ByteArray) (w : World) (hs : s.size ≤ 100000) :
    Calls Tryd.prog 10 #[.string s] w fun e w' => TakePost s w e w' := by
  by_cases h8 : s.size < 8
  · have hd : decide ((s.size : Int) < 8) = true := decide_eq_true (by omega)
    go_enter Tryd.func10, Tryd.ntmps10
    go_wp2
    go_ret3
    exact take_of (fTake_short h8) _ _ (Below.refl _ _)
  have hd8 : decide ((s.size : Int) < 8) = false := decide_eq_false (by omega)
  obtain ⟨n, hn, hn1⟩ := fourOf_nat s
  obtain ⟨m, hm, hm1⟩ := fourOf_nat (s.extract 4 s.size)
  have ht := fun W => rtakeFour_in s W (by unfold maxLen; omega) (by omega)
  have ht2 := fun W => rtakeFour_in (s.extract 4 s.size) W (by rw [ByteArray.size_extract]; unfold maxLen; omega) (by rw [ByteArray.size_extract]; omega)
  rw [hn] at ht
  rw [hm] at ht2
  by_cases hbig : 32768 < n
  · have hE := take_of (fTake_over h8 hn hbig) w
    have hd : decide ((32768 : Int) < (n : Int)) = true := decide_eq_true (by omega)
    clear hn hm
    go_enter Tryd.func10, Tryd.ntmps10
    go_wp2_with fail
    refine (ht _).mono ?_
    rintro e w1 ⟨rfl, hb1⟩
    go_wp2_with fail
    go_ret3
    exact hE _ hb1
  have hdb : decide ((32768 : Int) < (n : Int)) = false := decide_eq_false (by omega)
  by_cases hcut : s.size < 8 + n
  · have hE := take_of (fTake_cut h8 hn hbig hcut) w
    have hd : decide ((s.size : Int) - 8 < (n : Int)) = true := decide_eq_true (by omega)
    clear hn hm
    go_enter Tryd.func10, Tryd.ntmps10
    go_wp2_with fail
    refine (ht _).mono ?_
    rintro e w1 ⟨rfl, hb1⟩
    go_wp2_with fail
    go_ret3
    exact hE _ hb1
  have hdc : decide ((s.size : Int) - 8 < (n : Int)) = false := decide_eq_false (by omega)
  have hadd : ∀ W, (Op.stringOp .add (s.extract 0 4) (s.extract 8 (8 + n))).run Tryd.prog W = .ok (.string (s.extract 0 4 ++ s.extract 8 (8 + n))) W := fun W => run_string_add_sum W _ _ (by rw [ByteArray.size_extract, ByteArray.size_extract]; omega)
  have hs5 := fun W => rsum5_any (s.extract 0 4 ++ s.extract 8 (8 + n)) W (by rw [ByteArray.size_append, ByteArray.size_extract, ByteArray.size_extract]; unfold maxLen; omega)
  have hO := fTake_ok h8 hn hbig hcut
  have hS := fTake_sum h8 hn hbig hcut
  rw [hm] at hO hS
  generalize fSum (s.extract 0 4 ++ s.extract 8 (8 + n)) = c at hs5 hO hS
  clear hn hm
  by_cases hc : c = (m : Int)
  · have hE := take_of (hO hc) w
    have hd : (c == (m : Int)) = true := by simpa using hc
    subst hc
    clear hO hS
    go_enter Tryd.func10, Tryd.ntmps10
    go_wp2_with fail
    refine (ht _).mono ?_
    rintro e w1 ⟨rfl, hb1⟩
    go_wp2_with fail
    refine (ht2 _).mono ?_
    rintro e w2 ⟨rfl, hb2⟩
    have hb := bel_next hb1 hb2
    clear ht ht2 hb1 hb2
    go_wp2_with fail
    refine (hs5 _).mono ?_
    rintro e w3 ⟨rfl, hw3⟩
    subst hw3
    go_wp2_with fail
    go_ret3
    exact hE _ hb
  · have hE := take_of (hS hc) w
    have hd : (c == (m : Int)) = false := by simpa using hc
    clear hO hS
    go_enter Tryd.func10, Tryd.ntmps10
    go_wp2_with fail
    refine (ht _).mono ?_
    rintro e w1 ⟨rfl, hb1⟩
    go_wp2_with fail
    refine (ht2 _).mono ?_
    rintro e w2 ⟨rfl, hb2⟩
    have hb := bel_next hb1 hb2
    clear ht ht2 hb1 hb2
    go_wp2_with fail
    refine (hs5 _).mono ?_
    rintro e w3 ⟨rfl, hw3⟩
    subst hw3
    go_wp2_with fail
    go_ret3
    exact hE _ hb
end Go.Proofs.YtllcpdpjfcjopaaDoor
