/- Which cell bytes begin with: the program's, whatever the way. -/
import Derived.Test.YticpaemmdfmbfaaJ22
namespace Go.Proofs.Yticpaemmdfmbfaa
open Go.RowKit
set_option linter.unusedVariables false
set_option maxRecDepth 100000

theorem BlkC.set1 {W : World} {b : Nat} {n : Int} (u : Value) {v : Value} (h : BlkC W b n v) : BlkC (W.setCell ⟨b, 1, none⟩ u) b n u := by
  unfold BlkC at h ⊢
  simp only [World.setCell, Array.getElem?_modify, h]
  simp
theorem below_set1 {w W : World} {b o : Nat} (h : Below w.heap.size w W) (hb : w.heap.size ≤ b) (u : Value) : Below w.heap.size w (W.setCell ⟨b, o, none⟩ u) := by
  refine ⟨h.os, h.tape, h.output, by simp [World.setCell]; exact h.size, fun k hk => ?_⟩
  rw [Below.heap_setCell _ _ _ _ (by show k ≠ b; omega)]
  exact h.block k hk
theorem own_set1 {W : World} {base b o : Nat} {v : Value} {l : List Int} (h : OwnL W base v l) (hb : b < base) (u : Value) : OwnL (W.setCell ⟨b, o, none⟩ u) base v l :=
  h.kept (grownBy_set _ _ _ _) (.inr fun e => by have := own_row h b e; omega)
def takeR (agg bound : Int) (s : ByteArray) : Cl × Int × Int := if wayC agg bound then cTake agg bound.toNat s else ((0, []), 0, 1)
abbrev TakR (w : World) (r : Cl × Int × Int) : Ending → World → Prop := fun e w' => (∃ v, e = .returned (.tuple #[v, .int .i64 r.2.1, .int .i64 r.2.2]) ∧ OwnC w' w.heap.size v r.1) ∧ Below w.heap.size w w'
theorem takR_zero {w W : World} {b : Nat} {e0 : Int} (h : Below w.heap.size w W) (hb : w.heap.size ≤ b) : TakR w ((0, []), 0, e0) (.returned (.tuple #[.agg #[.int .i64 0, .slice none 0 0], .int .i64 0, .int .i64 e0])) ((W.setCell ⟨b, 0, none⟩ (.int .i64 0)).setCell ⟨b, 1, none⟩ (.slice none 0 0)) :=
  ⟨⟨_, rfl, OwnC.num _ _ _⟩, below_set h hb _ _⟩
theorem takR_new {w : World} {n m e0 : Int} : TakR w ((n, []), m, e0) (.returned (.tuple #[.agg #[.int .i64 n, .slice none 0 0], .int .i64 m, .int .i64 e0])) (w.alloc (.cells #[.int .i64 n, .slice none 0 0] 60)) :=
  ⟨⟨_, rfl, OwnC.num _ _ _⟩, (Below.refl _ _).alloc (Nat.le_refl _) _⟩
set_option maxHeartbeats 800000 in
theorem ctakeN_any (agg : Int) (bd : Nat) (s : ByteArray) (w : World) (h6 : agg ≠ 6) (hw : wayC agg bd = true) (hs : s.size ≤ 1000000000) :
    Calls Try.prog 80 #[.int .i64 agg, .int .i64 (bd : Int), .string s] w (TakR w (cTake agg bd s)) := by
  have H1 := hidM (fun W => isWay_any agg bd W)
  rw [hw] at H1
  have H2 := hidM (fun W => take_any s W (by unfold maxLen; omega))
  have h6' : (agg == 6) = false := by simpa using h6
  rw [cTakeN h6]
  obtain ⟨m, q, e, ht⟩ : ∃ m q e, takeOf s = (m, q, e) := ⟨_, _, _, rfl⟩
  rw [ht] at H2 ⊢
  simp only at *
  clear ht
  by_cases he : e = 0
  · subst he
    rw [if_neg (by simp)]
    have hb0 := (Below.refl w.heap.size w).alloc (Nat.le_refl _) (.cells #[.int .i64 m, .slice none 0 0] 60)
    have H3 := hidM (mayBe_any agg bd _ (m, []) (w.alloc (.cells #[.int .i64 m, .slice none 0 0] 60)) (OwnC.num _ 0 m).cs (by simp))
    have HB := hidM hb0
    have HC := hidM (BlkC.new w m (.slice none 0 0))
    clear hb0
    cases hm : mayC agg bd (m, []) with
    | false =>
      rw [hm] at H3
      simp only [Bool.false_eq_true, if_false]
      go_enter Try.func80, Try.ntmps80
      go_wp2_with (first | (go_at_call 49; refine (H1.out _).mono ?_; rintro e w' ⟨rfl, rfl⟩) | (go_at_call 100; refine (H2.out _).mono ?_; rintro e w' ⟨rfl, rfl⟩) | (go_at_call 61; refine H3.out.mono ?_; rintro e W2 ⟨rfl, hb2⟩; have hB2 := HC.out.below hb2; obtain ⟨c0, c1, f0, f1⟩ := hB2.cells; obtain ⟨-, c1', -, f1'⟩ := (hB2.set0 0).cells))
      exact bodyPost_ret (results_cell3 rfl rfl hB2.set.load) rfl (takR_zero (nxt HB.out hb2) (Nat.le_refl _))
    | true =>
      rw [hm] at H3
      simp only [if_true]
      go_enter Try.func80, Try.ntmps80
      go_wp2_with (first | (go_at_call 49; refine (H1.out _).mono ?_; rintro e w' ⟨rfl, rfl⟩) | (go_at_call 100; refine (H2.out _).mono ?_; rintro e w' ⟨rfl, rfl⟩) | (go_at_call 61; refine H3.out.mono ?_; rintro e W2 ⟨rfl, hb2⟩; have hB2 := HC.out.below hb2; obtain ⟨c0, c1, f0, f1⟩ := hB2.cells; obtain ⟨-, c1', -, f1'⟩ := (hB2.set0 m).cells))
      exact bodyPost_ret (results_cell3 rfl rfl hB2.set.load) rfl ⟨⟨_, rfl, OwnC.num _ _ _⟩, below_set (nxt HB.out hb2) (Nat.le_refl _) _ _⟩
  · have he' : (e != 0) = true := by simpa using he
    rw [if_pos he]
    go_enter Try.func80, Try.ntmps80
    go_wp2_with (first | (go_at_call 49; refine (H1.out _).mono ?_; rintro e w' ⟨rfl, rfl⟩) | (go_at_call 100; refine (H2.out _).mono ?_; rintro e w' ⟨rfl, rfl⟩))
    exact bodyPost_ret (results_cell3 rfl rfl (BlkC.new w _ _).load) rfl takR_new
/-- What lies behind the set that was taken. -/
theorem ts_world {w W2 : World} {a : Option Addr} {cap : Nat} {l : List Int} {W1 : World} (hW : W1 = w.alloc (.cells #[.int .i64 0, .slice none 0 0] 60)) (ho : OwnL W2 W1.heap.size (.slice a l.length cap) l) (hb : Below W1.heap.size W1 W2) :
    BlkC W2 w.heap.size 0 (.slice none 0 0) ∧ Below w.heap.size w W2 ∧ W1.heap.size = w.heap.size + 1 := by
  subst hW
  exact ⟨(BlkC.new w _ _).below hb, nxt ((Below.refl _ _).alloc (Nat.le_refl _) _) hb, by simp⟩
set_option maxHeartbeats 1000000 in
theorem ctakeS_any (bd : Nat) (s : ByteArray) (w : World) (hw : wayC 6 bd = true) (hs : s.size ≤ 1000000000) :
    Calls Try.prog 80 #[.int .i64 6, .int .i64 (bd : Int), .string s] w (TakR w (cTake 6 bd s)) := by
  have H1 := hidM (fun W => isWay_any 6 bd W)
  have hbd := (wayC_bd hw).2.2.2.1
  rw [hw] at H1
  obtain ⟨W1, hW⟩ : ∃ W1 : World, W1 = w.alloc (.cells #[.int .i64 0, .slice none 0 0] 60) := ⟨_, rfl⟩
  have H2 := hidM (takeSet_any bd s W1 hs (by omega))
  have HW := hidM hW
  have HTS := hidM (fun (W2 : World) (a : Option Addr) (cap : Nat) (l : List Int) (ho : OwnL W2 W1.heap.size (.slice a l.length cap) l) (hb : Below W1.heap.size W1 W2) => ts_world hW ho hb)
  rw [cTake6]
  have hlen := tSet_len bd s
  have herr := tSet_err (bd := bd) (s := s)
  obtain ⟨l, q, e, ht⟩ : ∃ l q e, tSet bd s = (l, q, e) := ⟨_, _, _, rfl⟩
  rw [ht] at H2 hlen herr ⊢
  simp only at *
  clear ht hW
  by_cases he : e = 0
  · subst he
    clear herr
    rw [if_neg (by simp)]
    have H3 := hidM (fun (W : World) (a : Option Addr) (cap : Nat) (h : NS W (.slice a l.length cap) l) => mayBe_any 6 bd _ (0, l) W ⟨a, cap, rfl, h⟩ (by show l.length ≤ _; omega))
    cases hm : mayC 6 bd (0, l) with
    | false =>
      rw [hm] at H3
      simp only [Bool.false_eq_true, if_false]
      go_enter Try.func80, Try.ntmps80
      go_wp2_with (first | (go_at_call 49; refine (H1.out _).mono ?_; rintro e w' ⟨rfl, rfl⟩) | (go_at_call 102; rw [← HW.out]; refine H2.out.mono ?_; rintro e W2 ⟨⟨a, cap, rfl, ho⟩, hb2⟩; obtain ⟨hB2, b2, sz⟩ := HTS.out _ _ _ _ ho hb2; obtain ⟨c0, c1, f0, f1⟩ := hB2.cells; have hB2' := hB2.set1 (.slice a l.length cap); have b2' := below_set1 (o := 1) b2 (Nat.le_refl _) (.slice a l.length cap); have o2 := own_set1 (b := w.heap.size) (o := 1) ho (by omega) (.slice a l.length cap); obtain ⟨d0, d1, g0, g1⟩ := hB2'.cells; have H3' := hidM (H3.out _ a cap o2.ns)))
      go_wp2_with (go_at_call 61; refine H3'.out.mono ?_; rintro e W3 ⟨rfl, hb3⟩; have hB3 := hB2'.below hb3; have b3 := nxt b2' hb3; have o3 := OwnL.below o2 hb3; obtain ⟨k0, k1, p0, p1⟩ := hB3.cells; obtain ⟨-, k1', -, p1'⟩ := (hB3.set0 0).cells)
      exact bodyPost_ret (results_cell3 rfl rfl hB3.set.load) rfl (takR_zero b3 (Nat.le_refl _))
    | true =>
      rw [hm] at H3
      simp only [if_true]
      go_enter Try.func80, Try.ntmps80
      go_wp2_with (first | (go_at_call 49; refine (H1.out _).mono ?_; rintro e w' ⟨rfl, rfl⟩) | (go_at_call 102; rw [← HW.out]; refine H2.out.mono ?_; rintro e W2 ⟨⟨a, cap, rfl, ho⟩, hb2⟩; obtain ⟨hB2, b2, sz⟩ := HTS.out _ _ _ _ ho hb2; obtain ⟨c0, c1, f0, f1⟩ := hB2.cells; have hB2' := hB2.set1 (.slice a l.length cap); have b2' := below_set1 (o := 1) b2 (Nat.le_refl _) (.slice a l.length cap); have o2 := own_set1 (b := w.heap.size) (o := 1) ho (by omega) (.slice a l.length cap); obtain ⟨d0, d1, g0, g1⟩ := hB2'.cells; have H3' := hidM (H3.out _ a cap o2.ns)))
      go_wp2_with (go_at_call 61; refine H3'.out.mono ?_; rintro e W3 ⟨rfl, hb3⟩; have hB3 := hB2'.below hb3; have b3 := nxt b2' hb3; have o3 := OwnL.below o2 hb3; obtain ⟨k0, k1, p0, p1⟩ := hB3.cells; obtain ⟨-, k1', -, p1'⟩ := (hB3.set0 0).cells)
      exact bodyPost_ret (results_cell3 rfl rfl hB3.set.load) rfl ⟨⟨_, rfl, _, _, rfl, (own_set o3 (by omega) _ _).lower (by omega)⟩, below_set b3 (Nat.le_refl _) _ _⟩
  · obtain ⟨rfl, rfl⟩ := herr he
    have he' : (e != 0) = true := by simpa using he
    rw [if_pos he]
    go_enter Try.func80, Try.ntmps80
    go_wp2_with (first | (go_at_call 49; refine (H1.out _).mono ?_; rintro e w' ⟨rfl, rfl⟩) | (go_at_call 102; rw [← HW.out]; refine H2.out.mono ?_; rintro e W2 ⟨⟨a, cap, rfl, ho⟩, hb2⟩; obtain ⟨hB2, b2, sz⟩ := HTS.out _ _ _ _ ho hb2; obtain ⟨c0, c1, f0, f1⟩ := hB2.cells; obtain ⟨d0, d1, g0, g1⟩ := (hB2.set1 (.slice a 0 cap)).cells; obtain ⟨-, k1, -, p1⟩ := ((hB2.set1 (.slice a 0 cap)).set0 0).cells))
    exact bodyPost_ret (results_cell3 rfl rfl (hB2.set1 _).set.load) rfl (takR_zero (below_set1 b2 (Nat.le_refl _) _) (Nat.le_refl _))
theorem ctake_any (agg bound : Int) (s : ByteArray) (w : World) (hs : s.size ≤ 1000000000) :
    Calls Try.prog 80 #[.int .i64 agg, .int .i64 bound, .string s] w (TakR w (takeR agg bound s)) := by
  unfold takeR
  cases hw : wayC agg bound with
  | false =>
    have H1 := hidM (fun W => isWay_any agg bound W)
    rw [hw] at H1
    simp only [Bool.false_eq_true, if_false]
    go_enter Try.func80, Try.ntmps80
    go_wp2_with (go_at_call 49; refine (H1.out _).mono ?_; rintro e w' ⟨rfl, rfl⟩)
    exact bodyPost_ret (results_cell3 rfl rfl (BlkC.new w _ _).load) rfl takR_new
  | true =>
    simp only [if_true]
    obtain ⟨bd, rfl⟩ := Int.eq_ofNat_of_zero_le (wayC_bd hw).2.2.1
    rw [Int.toNat_natCast]
    by_cases h6 : agg = 6
    · subst h6
      exact ctakeS_any bd s w hw hs
    · exact ctakeN_any agg bd s w h6 hw hs
end Go.Proofs.Yticpaemmdfmbfaa
