/- EvalRuns: run, and the walk. -/
import Derived.Test.YtkmnpaiippgnmaaQ6
import Derived.Test.YtkmnpaiippgnmaaQ8
import Derived.Test.YtkmnpaiippgnmaaQ9
import Derived.Test.YtkmnpaiippgnmaaQB
import Derived.Deep.RegionHeld3
namespace Go.Proofs.Ytkmnpaiippgnmaa
open Go.RowKit
set_option linter.unusedVariables false
set_option maxRecDepth 100000

theorem RS.nil (w : World) : RS w (.slice none 0 0) [] := ⟨none, 0, rfl, .inl rfl⟩
set_option maxHeartbeats 1000000 in
theorem run8_any (f : Fo) (v : Value) (w : World) (x : Rc) (fu : Int) (h : FS QA w v f) (hl : f.len ≤ 3518437208780) (hwf : WfB f) (hx : x.1.2.size ≤ 140737488351232) :
    Calls Try.prog 11 #[v, .agg #[.int .i64 x.1.1, .string x.1.2, .int .i64 x.2], .int .i64 fu] w fun e w' => e = .returned (.bool true) ∧ Below w.heap.size w w' := by
  have Hn := hidM num8_any
  have hB0 := (Below.refl w.heap.size w).alloc (Nat.le_refl _) (.cells #[.int .i64 x.1.1, .string x.1.2, .int .i64 x.2] 37)
  have Hf := hidM h
  have Hwf := hidM hwf
  have HB0 := hidM hB0
  have Hr := hidM (run_any f v _ x fu (h.below hB0) hl hwf hx)
  have HCk := hidM (fun W (hb : Below w.heap.size w W) => rcheck_any f v W (h.below hb) hl hwf)
  have HRn := hidM (fun W (q : Nat) (hb : Below w.heap.size w W) => rRun_any f v W x q (h.below hb) hl hwf)
  have HMy := hidM (fun W => may_any x fu W hx)
  have hlen := runR_len f x fu
  obtain ⟨a, cap, rfl⟩ := h.val
  obtain ⟨⟨xa, xb⟩, xv⟩ := x
  simp only at *
  obtain ⟨C, hC⟩ : ∃ C, cE f = C := ⟨_, rfl⟩
  have HC := hidM hC
  obtain ⟨⟨e0, n0, l0⟩, hT⟩ : ∃ t, runR f ((xa, xb), xv) fu = t := ⟨_, rfl⟩
  have HT := hidM hT
  rw [hT] at Hr hlen
  rw [hC] at HCk
  obtain ⟨my, hmy⟩ : ∃ my, mayR ((xa, xb), xv) fu = my := ⟨_, rfl⟩
  have HMyE := hidM hmy
  rw [hmy] at HMy
  clear h hwf hB0 hC hT hmy hx
  go_enter Try.func11, Try.ntmps11
  go_wp2_with fail
  refine Hr.out.mono ?_
  rintro e w1 ⟨v1, he1, hown1, hb1⟩
  simp only at he1 hown1 hlen
  subst he1
  have hw1 : Below w.heap.size w w1 := HB0.out.trans (hb1.mono (by simp))
  have HW1 := hidM hw1
  have hRS1 := RS.own hown1
  have HRS1 := hidM hRS1
  obtain ⟨a1, cap1, rfl⟩ := row_val hown1
  have hc1 := HCk.out w1 hw1
  have HX1 := hidM (box_kept hb1)
  clear hown1 hb1 hw1 hRS1 Hr
  go_wp2_with fail
  refine hc1.mono ?_
  rintro e w2 ⟨rfl, hb2⟩
  have HW2 := hidM (HW1.out.trans (hb2.mono HW1.out.size))
  have HRS2 := hidM (HRS1.out.below hb2)
  have hx2 : w2.heap[w.heap.size]? = some (.cells #[.int .i64 xa, .string xb, .int .i64 xv] 37 (0, 0)) := by rw [hb2.block _ (Array.getElem?_eq_some_iff.1 HX1.out).1]; exact HX1.out
  have HX2 := hidM hx2
  obtain ⟨x0, x1, x2⟩ := cell3 hx2
  clear hb2 hx2 hc1
  by_cases hc0 : C = 0
  · subst hc0
    have hm3 := HMy.out w2
    go_wp2_with fail
    refine hm3.mono ?_
    rintro e w3 ⟨rfl, hb3⟩
    have HW3 := hidM (HW2.out.trans (hb3.mono HW2.out.size))
    have HRS3 := hidM (HRS2.out.below hb3)
    have hx3 : w3.heap[w.heap.size]? = some (.cells #[.int .i64 xa, .string xb, .int .i64 xv] 37 (0, 0)) := by rw [hb3.block _ (Array.getElem?_eq_some_iff.1 HX2.out).1]; exact HX2.out
    clear x0 x1 x2
    obtain ⟨x0, x1, x2⟩ := cell3 hx3
    clear hb3 hx3 hm3
    cases my with
    | false =>
      have hno : ¬ (xb.size ≤ 64 ∧ 0 ≤ fu ∧ fu ≤ 2000) := fun hh => by have := (mayR_iff ((xa, xb), xv) fu).2 hh; rw [HMyE.out] at this; cases this
      have hR := runR_2 (x := ((xa, xb), xv)) (fu := fu) HC.out hno
      rw [HT.out] at hR
      injection hR with r1 hR
      injection hR with r2 r3
      subst r1 r2 r3
      have HQ := hidM (eqrecs_any _ _ [] w3 HRS3.out (RS.nil w3) (by decide))
      clear hno x0 x1 x2
      go_wp2_with (first | (go_at_call 14; refine (Hn.out _ _).mono ?_; rintro e w' ⟨rfl, rfl⟩) | (go_at_call 16; refine HQ.out.mono ?_; rintro e w4 ⟨rfl, hd4⟩))
      go_ret
      exact ⟨rfl, HW3.out.trans (hd4.below _)⟩
    | true =>
      obtain ⟨m1, m2, m3⟩ := (mayR_iff ((xa, xb), xv) fu).1 HMyE.out
      obtain ⟨q, rfl⟩ : ∃ q : Nat, fu = q := ⟨fu.toNat, by omega⟩
      have hr4 := HRn.out w3 q HW3.out HC.out m1 (by omega)
      rw [HT.out] at hr4
      clear m1 m2 m3
      go_wp2_with fail
      refine hr4.mono ?_
      rintro e w4 ⟨v4, he4, hown4, hb4⟩
      simp only at he4 hown4
      subst he4
      have HW4 := hidM (HW3.out.trans (hb4.mono HW3.out.size))
      have HQ := hidM (eqrecs_any _ _ l0 w4 (HRS3.out.below hb4) (RS.own hown4) (by omega))
      obtain ⟨a4, cap4, rfl⟩ := row_val hown4
      clear x0 x1 x2 hb4 hown4 hr4
      go_wp2_with (first | (go_at_call 14; refine (Hn.out _ _).mono ?_; rintro e w' ⟨rfl, rfl⟩) | (go_at_call 16; refine HQ.out.mono ?_; rintro e w5 ⟨rfl, hd5⟩))
      go_ret
      exact ⟨rfl, HW4.out.trans (hd5.below _)⟩
  · have hce : (C == 0) = false := beq_eq_false_iff_ne.2 hc0
    have hR := runR_1 (f := f) (x := ((xa, xb), xv)) (fu := fu) (by rw [HC.out]; exact hc0)
    rw [HT.out, HC.out] at hR
    injection hR with r1 hR
    injection hR with r2 r3
    subst r1 r2 r3
    have HQ := hidM (eqrecs_any _ _ [] w2 HRS2.out (RS.nil w2) (by decide))
    clear hc0 x0 x1 x2
    go_wp2_with (first | (go_at_call 14; refine (Hn.out _ _).mono ?_; rintro e w' ⟨rfl, rfl⟩) | (go_at_call 16; refine HQ.out.mono ?_; rintro e w4 ⟨rfl, hd4⟩))
    go_ret
    exact ⟨rfl, HW2.out.trans (hd4.below _)⟩
end Go.Proofs.Ytkmnpaiippgnmaa
