/- Two cells together: the program's. -/
import Derived.Test.YticpaemmdfmbfaaJ17
import Derived.Test.YticpaemmdfmbfaaJ19
namespace Go.Proofs.Yticpaemmdfmbfaa
open Go.RowKit
set_option linter.unusedVariables false
set_option maxRecDepth 100000

/-- What Join answers, whatever comes. -/
def joinR (agg bound : Int) (a b : Cl) : Cl × Int := if chk agg bound a && chk agg bound b then joinC agg bound.toNat a b else ((0, []), 1)
theorem chk_may {agg bound : Int} {c : Cl} (h : chk agg bound c = true) : wayC agg bound = true ∧ mayC agg bound.toNat c = true := by simpa [chk] using h
theorem may_rise {bound : Nat} {c : Cl} (h : mayC 6 bound c = true) : c.1 = 0 ∧ Rise c.2 ∧ c.2.length ≤ bound := by
  rw [may6] at h
  simp only [Bool.and_eq_true, decide_eq_true_eq] at h
  exact ⟨h.1.1, h.2, h.1.2⟩
theorem may_num {agg : Int} {bound : Nat} {c : Cl} (h6 : agg ≠ 6) (h : mayC agg bound c = true) : c.2 = [] ∧ nP agg c.1 := by
  unfold mayC at h
  rw [if_neg h6] at h
  simp only [Bool.and_eq_true, decide_eq_true_eq] at h
  exact ⟨h.1, h.2⟩
/-- The two boxes and the result's cell. -/
structure JW (w W : World) (a b : Cl) (va vb : Value) : Prop where
  bel : Below w.heap.size w W
  sz : W.heap.size = w.heap.size + 3
  ba : BlkC W w.heap.size a.1 va
  bb : BlkC W (w.heap.size + 1) b.1 vb
  br : BlkC W (w.heap.size + 2) 0 (.slice none 0 0)
def jw (w : World) (a b : Cl) (va vb : Value) : World := ((w.alloc (.cells #[.int .i64 a.1, va] 60)).alloc (.cells #[.int .i64 b.1, vb] 60)).alloc (.cells #[.int .i64 0, .slice none 0 0] 60)
theorem jw_ok (w : World) (a b : Cl) (va vb : Value) : JW w (jw w a b va vb) a b va vb := by
  have n1 := BlkC.new w a.1 va
  have n2 := BlkC.new (w.alloc (.cells #[.int .i64 a.1, va] 60)) b.1 vb
  have n3 := BlkC.new ((w.alloc (.cells #[.int .i64 a.1, va] 60)).alloc (.cells #[.int .i64 b.1, vb] 60)) 0 (.slice none 0 0)
  have st : ∀ (W : World) (o : Obj), Below W.heap.size W (W.alloc o) := fun W o => (Below.refl _ _).alloc (Nat.le_refl _) _
  refine ⟨nxt (nxt (st _ _) (st _ _)) (st _ _), by simp [jw], (n1.below (st _ _)).below (st _ _), ?_, ?_⟩
  · have := n2.below (st _ (.cells #[.int .i64 0, .slice none 0 0] 60))
    simpa [jw] using this
  · simpa [jw] using n3
theorem JW.next {w W W' : World} {a b : Cl} {va vb : Value} (h : JW w W a b va vb) (hb : Below W.heap.size W W') : Below w.heap.size w W' ∧ BlkC W' w.heap.size a.1 va ∧ BlkC W' (w.heap.size + 1) b.1 vb ∧ BlkC W' (w.heap.size + 2) 0 (.slice none 0 0) ∧ w.heap.size + 3 ≤ W'.heap.size :=
  ⟨nxt h.bel hb, h.ba.below hb, h.bb.below hb, h.br.below hb, by have := hb.size; have := h.sz; omega⟩
theorem ret_store {w W : World} {b : Nat} {n : Int} {e0 : Int} (h : Below w.heap.size w W) (hb : w.heap.size ≤ b) : CellR w (n, []) e0 (.returned (.tuple #[.agg #[.int .i64 n, .slice none 0 0], .int .i64 e0])) ((W.setCell ⟨b, 0, none⟩ (.int .i64 n)).setCell ⟨b, 1, none⟩ (.slice none 0 0)) :=
  ⟨⟨_, rfl, OwnC.num _ _ _⟩, below_set h hb _ _⟩
set_option maxHeartbeats 1000000 in
theorem join_any (agg bound : Int) (va vb : Value) (a b : Cl) (w : World) (ha : CS w va a) (hb : CS w vb b) (wa : WfC a) (wb : WfC b) (hla : a.2.length ≤ 50000) (hlb : b.2.length ≤ 50000) :
    Calls Try.prog 50 #[.int .i64 agg, .int .i64 bound, va, vb] w (CellR w (joinR agg bound a b).1 (joinR agg bound a b).2) := by
  obtain ⟨aa, ca, rfl, na⟩ := ha
  obtain ⟨ab, cb, rfl, nb⟩ := hb
  obtain ⟨W, hW⟩ : ∃ W : World, W = jw w a b (.slice aa a.2.length ca) (.slice ab b.2.length cb) := ⟨_, rfl⟩
  have hJ : JW w W a b (.slice aa a.2.length ca) (.slice ab b.2.length cb) := by rw [hW]; exact jw_ok _ _ _ _ _
  have H1 := hidM (check_any agg bound _ a W ⟨aa, ca, rfl, na.below hJ.bel⟩ (by omega))
  have H2 := hidM (fun W' (h : Below W.heap.size W W') => check_any agg bound _ b W' ⟨ab, cb, rfl, (nb.below hJ.bel).below h⟩ (by omega))
  have HJ := hidM hJ
  have HW := hidM (show ((w.alloc (.cells #[.int .i64 a.1, .slice aa a.2.length ca] 60)).alloc (.cells #[.int .i64 b.1, .slice ab b.2.length cb] 60)).alloc (.cells #[.int .i64 0, .slice none 0 0] 60) = W from hW.symm)
  have l1 := hJ.ba.load
  unfold joinR
  cases hca : chk agg bound a with
  | false =>
    rw [hca, show errC false = 1 from rfl] at H1
    simp only [Bool.false_and, Bool.false_eq_true, if_false]
    clear hJ hW
    have HA := hidM na
    have HN := hidM nb
    clear na nb
    go_enter Try.func50, Try.ntmps50
    go_wp2_with (go_at_call 44; rw [HW.out]; refine H1.out.mono ?_; rintro e W2 ⟨rfl, hb2⟩; obtain ⟨b2, ba2, bb2, br2, sz2⟩ := HJ.out.next hb2; obtain ⟨c0, c1, f0, f1⟩ := br2.cells; obtain ⟨-, c1', -, f1'⟩ := (br2.set0 0).cells)
    exact bodyPost_ret (results_cell2 rfl rfl br2.set.load) rfl (ret_store b2 (by omega))
  | true =>
    rw [hca, show errC true = 0 from rfl] at H1
    cases hcb : chk agg bound b with
    | false =>
      rw [hcb, show errC false = 1 from rfl] at H2
      simp only [Bool.and_false, Bool.false_eq_true, if_false]
      clear hJ hW
      have HA := hidM na
      have HN := hidM nb
      clear na nb
      go_enter Try.func50, Try.ntmps50
      go_wp2_with (go_at_call 44; rw [HW.out]; refine H1.out.mono ?_; rintro e W2 ⟨rfl, hb2⟩; obtain ⟨-, -, bb2, -, -⟩ := HJ.out.next hb2; obtain ⟨l0, l1, -, -⟩ := bb2.cells)
      go_wp2_with (go_at_call 44; refine (H2.out _ hb2).mono ?_; rintro e W3 ⟨rfl, hb3⟩; have hb3' := nxt hb2 hb3; obtain ⟨b3, ba3, bb3, br3, sz3⟩ := HJ.out.next hb3'; obtain ⟨c0, c1, f0, f1⟩ := br3.cells; obtain ⟨-, c1', -, f1'⟩ := (br3.set0 0).cells; obtain ⟨a0, a1, -, -⟩ := ba3.cells; obtain ⟨e0, e1, -, -⟩ := bb3.cells)
      exact bodyPost_ret (results_cell2 rfl rfl br3.set.load) rfl (ret_store b3 (by omega))
    | true =>
      rw [hcb, show errC true = 0 from rfl] at H2
      simp only [Bool.and_self, if_true]
      obtain ⟨hw, hma⟩ := chk_may hca
      obtain ⟨-, hmb⟩ := chk_may hcb
      obtain ⟨g1, g6, gb, gb32, gb1⟩ := wayC_bd hw
      obtain ⟨bd, rfl⟩ := Int.eq_ofNat_of_zero_le gb
      rw [Int.toNat_natCast] at hma hmb ⊢
      by_cases h6 : agg = 6
      · subst h6
        obtain ⟨-, hr, -⟩ := may_rise hmb
        have H3 := hidM (fun W' (h : Below W.heap.size W W') => joinSets_any bd _ _ a.2 b.2 W' ((na.below hJ.bel).below h) ((nb.below hJ.bel).below h) hr hla hlb)
        rw [show joinC 6 bd a b = joinS bd a.2 b.2 by unfold joinC joinS; rw [if_pos rfl]]
        generalize joinS bd a.2 b.2 = r at *
        clear hJ hW
        have HA := hidM na
        have HN := hidM nb
        clear na nb hr hma hmb hca hcb hw
        go_enter Try.func50, Try.ntmps50
        go_wp2_with (go_at_call 44; rw [HW.out]; refine H1.out.mono ?_; rintro e W2 ⟨rfl, hb2⟩; obtain ⟨-, -, bb2, -, -⟩ := HJ.out.next hb2; obtain ⟨l0, l1, -, -⟩ := bb2.cells)
        go_wp2_with (go_at_call 44; refine (H2.out _ hb2).mono ?_; rintro e W3 ⟨rfl, hb3⟩; have hb3' := nxt hb2 hb3; obtain ⟨b3, ba3, bb3, br3, sz3⟩ := HJ.out.next hb3'; obtain ⟨c0, c1, f0, f1⟩ := br3.cells; obtain ⟨-, c1', -, f1'⟩ := (br3.set0 r.1.1).cells; obtain ⟨a0, a1, -, -⟩ := ba3.cells; obtain ⟨e0, e1, -, -⟩ := bb3.cells)
        go_wp2_with (go_at_call 67; refine (H3.out _ hb3').mono ?_; rintro e W4 ⟨⟨v4, rfl, a4, c4, rfl, ho4⟩, hb4⟩; have hb4' := nxt hb3' hb4; obtain ⟨b4, ba4, bb4, br4, sz4⟩ := HJ.out.next hb4'; obtain ⟨k0, k1, p0, p1⟩ := br4.cells; obtain ⟨-, k1', -, p1'⟩ := (br4.set0 r.1.1).cells)
        exact bodyPost_ret (results_cell2 rfl rfl br4.set.load) rfl ⟨⟨_, rfl, _, _, rfl, (own_set ho4 (by omega) _ _).lower (by omega)⟩, below_set b4 (by omega) _ _⟩
      · obtain ⟨-, pa⟩ := may_num h6 hma
        obtain ⟨-, pb⟩ := may_num h6 hmb
        have H3 := hidM (fun W' => joinNumbers_any agg a.1 b.1 W' g1 (by omega) wa.1 wb.1 pa pb)
        rw [show joinC agg bd a b = ((nF agg a.1 b.1, []), 0) by unfold joinC; rw [if_neg h6]]
        generalize nF agg a.1 b.1 = r at *
        have h6' : (agg == 6) = false := by simpa using h6
        clear hJ hW
        have HA := hidM na
        have HN := hidM nb
        clear na nb hma hmb hca hcb hw pa pb
        go_enter Try.func50, Try.ntmps50
        go_wp2_with (go_at_call 44; rw [HW.out]; refine H1.out.mono ?_; rintro e W2 ⟨rfl, hb2⟩; obtain ⟨-, -, bb2, -, -⟩ := HJ.out.next hb2; obtain ⟨l0, l1, -, -⟩ := bb2.cells)
        go_wp2_with (go_at_call 44; refine (H2.out _ hb2).mono ?_; rintro e W3 ⟨rfl, hb3⟩; have hb3' := nxt hb2 hb3; obtain ⟨b3, ba3, bb3, br3, sz3⟩ := HJ.out.next hb3'; obtain ⟨c0, c1, f0, f1⟩ := br3.cells; obtain ⟨-, c1', -, f1'⟩ := (br3.set0 r).cells; obtain ⟨a0, a1, -, -⟩ := ba3.cells; obtain ⟨e0, e1, -, -⟩ := bb3.cells)
        go_wp2_with (go_at_call 68; refine (H3.out _).mono ?_; rintro e W4 ⟨rfl, rfl⟩)
        exact bodyPost_ret (results_cell2 rfl rfl br3.set.load) rfl (ret_store b3 (by omega))
end Go.Proofs.Yticpaemmdfmbfaa
