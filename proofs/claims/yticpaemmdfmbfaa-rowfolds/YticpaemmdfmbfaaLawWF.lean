/- thresherlaw10.RowFolds: its walk. -/
import Derived.Test.YticpaemmdfmbfaaWRFold
import Derived.Test.YticpaemmdfmbfaaWHeavy
import Derived.Test.YticpaemmdfmbfaaWRecs
import Derived.Test.YticpaemmdfmbfaaWEq
namespace Go.Proofs.Yticpaemmdfmbfaa
open Go.RowKit
set_option linter.unusedVariables false
set_option maxRecDepth 100000

theorem wakes_any (w : World) : Calls Try.prog 17 #[] w (BoolR w true) := by
  obtain ⟨W0, hW0⟩ : ∃ W0 : World, W0 = w.alloc (.cells #[.int .i64 0, .string ⟨#[]⟩, .int .i64 2, .int .i64 0, .string ⟨#[]⟩, .int .i64 3] 54) := ⟨_, rfl⟩
  have hb0 : Below w.heap.size w W0 := by rw [hW0]; exact (Below.refl _ _).alloc (Nat.le_refl _) _
  have hr0 : W0.heap[w.heap.size]? = some (.cells #[.int .i64 0, .string ⟨#[]⟩, .int .i64 2, .int .i64 0, .string ⟨#[]⟩, .int .i64 3] 54 (0, 0)) := by rw [hW0]; exact heap_alloc_new w _
  have hs : RS W0 (.slice (some ⟨w.heap.size, 0, none⟩) 2 2) [((0, ⟨#[]⟩), 2), ((0, ⟨#[]⟩), 3)] := by
    refine ⟨_, 2, rfl, .inr ⟨w.heap.size, 0, rfl, (Array.getElem?_eq_some_iff.1 hr0).1, recsAt_of_block hr0 rfl⟩⟩
  have hwf : Wf [((0, ⟨#[]⟩), 2), ((0, ⟨#[]⟩), 3)] := by
    intro x hx
    simp at hx
    rcases hx with rfl | rfl <;> exact ⟨by decide, by decide, by decide, by decide, by decide⟩
  have H1 := hidM (fold_any 1 0 _ _ W0 hs hwf (by decide))
  rw [show foldRes 1 0 [((0, ⟨#[]⟩), 2), ((0, ⟨#[]⟩), 3)] = ([((0, ⟨#[]⟩), (5, []))], 0) by decide +kernel] at H1
  have H2 := hidM num_any
  have HW := hidM hW0.symm
  have HB := hidM hb0
  clear hW0 hr0 hs hwf hb0
  go_enter Try.func17, Try.ntmps17
  go_wp2_with (first | (go_at_call 11; rw [HW.out]; refine H1.out.mono ?_; rintro e W1 ⟨⟨v1, rfl, ho1⟩, hb1⟩; obtain ⟨a1, c1, rfl, hsh⟩ := ho1.ws; obtain ⟨b, off, rfl, hbl, hat⟩ := hsh.resolve_left (by simp); obtain ⟨c0, c1, c2, -⟩ := hat 0 _ rfl; simp only [Nat.zero_mul, Nat.add_zero] at c0 c1 c2) | (go_at_call 14; refine (H2.out _ _).mono ?_; rintro e w' ⟨rfl, rfl⟩))
  go_ret
  exact ⟨rfl, nxt HB.out hb1⟩
theorem In10.below {W W' : World} {agg bound : Int} {vl vv : Value} {x : ByteArray} {L : List (List Rw)} {l : List Rc} (h : In10 W agg bound vl vv x L l) (hb : Below W.heap.size W W') : In10 W' agg bound vl vv x L l :=
  ⟨h.hagg, h.hbound, ⟨h.hL.1.below hb, h.hL.2⟩, h.hLcap, ⟨h.hl.1.below hb, h.hl.2⟩, h.hcap, h.hx⟩
theorem fin_len (agg : Int) (bd : Nat) (l : List Rc) : (fin (foldR agg bd l)).1.length ≤ l.length := by
  have := len_fold agg bd l
  unfold fin
  split
  · exact this
  · simp
theorem fin_sets {agg bound : Int} {l : List Rc} (hw : wayC agg bound = true) (hl : Wf l) : ∀ r ∈ (fin (foldR agg bound.toNat l)).1, r.2.2.length ≤ 100000 := by
  intro r hr
  unfold fin at hr
  split at hr
  · have := (okC_fold l hw hl _ _ (mem_look (fold_rise _ _ _) hr)).2.2
    omega
  · simp at hr
set_option maxHeartbeats 1000000 in
theorem lawwf (agg bound : Int) (vl vv : Value) (x : ByteArray) (L : List (List Rw)) (l : List Rc) (w : World) (h : In10 w agg bound vl vv x L l) :
    Calls Try.prog 3 #[askV agg bound vl vv x] w (BoolR w true) := by
  have hb0 := (Below.refl w.heap.size w).alloc (Nat.le_refl _) (askO agg bound vl vv x)
  have hA := BlkA.new w agg bound vl vv x
  obtain ⟨W0, hW0⟩ : ∃ W0 : World, W0 = w.alloc (askO agg bound vl vv x) := ⟨_, rfl⟩
  rw [← hW0] at hb0 hA
  have h0 := h.below hb0
  have H1 := hidM (heavy_any agg bound vl vv x L l W0 h0)
  have HA := hidM (show ∀ W, Below W0.heap.size W0 W → W.cell? ⟨w.heap.size, 0, none⟩ = some (.int .i64 agg) ∧ W.cell? ⟨w.heap.size, 1, none⟩ = some (.int .i64 bound) ∧ W.cell? ⟨w.heap.size, 2, none⟩ = some vl ∧ W.cell? ⟨w.heap.size, 3, none⟩ = some vv ∧ W.cell? ⟨w.heap.size, 4, none⟩ = some (.string x) from fun W hW => (hA.below hW).cells)
  obtain ⟨a0, a1, a2, a3, a4⟩ := HA.out W0 (Below.refl _ _)
  have HR := hidM (show ∀ W, Below W0.heap.size W0 W → RS W vv l from fun W hW => h0.hl.1.below hW)
  have hwf := hidM h.hl.2.2
  have HW := hidM hW0.symm
  have HB := hidM hb0
  have HN := hidM num_any
  have HK := hidM wakes_any
  clear h h0 hb0 hA hW0
  go_enter Try.func3, Try.ntmps3
  go_wp2_with fail
  rw [HW.out]
  refine H1.out.mono ?_
  rintro e W1 ⟨⟨hv, rfl, hsm⟩, hb1⟩
  cases hv with
  | true =>
    go_wp2
    go_ret
    exact ⟨rfl, nxt HB.out hb1⟩
  | false =>
   obtain ⟨-, -, hls, -⟩ := hsm rfl
   obtain ⟨b0, b1, b2, b3, b4⟩ := HA.out W1 hb1
   have H2 := hidM (copyRecs_any vv l W1 (HR.out W1 hb1) (by omega))
   by_cases hok : (wayC agg bound && decide (l.length ≤ 1536) && keysOk l) = true
   · have hw := hidM (show wayC agg bound = true by simp only [Bool.and_eq_true] at hok; exact hok.1.1)
     obtain ⟨R, hR⟩ : ∃ R, R = fin (foldR agg bound.toNat l) := ⟨_, rfl⟩
     have HRES := hidM (show foldRes agg bound l = R by unfold foldRes; rw [if_pos hok, hR])
     have HR2 := hidM hR.symm
     have HFL := hidM (fin_len agg bound.toNat l)
     have HFS := hidM (fin_sets hw.out hwf.out)
     rw [← hR] at HFL HFS
     have HOK := hidM hok
     clear hR hok
     go_wp2_with (first
       | (go_at_call 10; refine H2.out.mono ?_; rintro e W2 ⟨vi, rfl, hoi, hb2⟩; have hb2' := nxt hb1 hb2; obtain ⟨c0, c1, c2, c3, c4⟩ := HA.out W2 hb2'; have HI := hidM hoi; have H3 := hidM (fold_any agg bound vi l W2 (RS.own hoi) hwf.out (by omega)); rw [HRES.out] at H3; clear hoi)
       | (go_at_call 11; refine H3.out.mono ?_; rintro e W3 ⟨⟨vx, rfl, hox⟩, hb3⟩; have hb3' := nxt hb2' hb3; obtain ⟨d0, d1, d2, d3, d4⟩ := HA.out W3 hb3'; have HX := hidM hox; have H4 := hidM (mayFold_any agg bound vv l W3 (HR.out W3 hb3') (by omega)); rw [HOK.out] at H4; clear hox)
       | (go_at_call 12; refine H4.out.mono ?_; rintro e W4 ⟨rfl, hb4⟩; have hb4' := nxt hb3' hb4; obtain ⟨e0, e1, e2, e3, e4⟩ := HA.out W4 hb4'; have H5 := hidM (rfold_any agg bound vv l W4 (HR.out W4 hb4') hwf.out (by omega) hw.out); rw [HR2.out] at H5)
       | (go_at_call 13; refine H5.out.mono ?_; rintro e W5 ⟨⟨vw, rfl, how⟩, hb5⟩; have hb5' := nxt hb4' hb5; obtain ⟨f0, f1, f2, f3, f4⟩ := HA.out W5 hb5'; have H6 := hidM (eqrows_any vx vw R.1 W5 (HX.out.ws.below (nxt hb4 hb5)) how.ws (by have := HFL.out; omega) HFS.out); clear how)
       | (go_at_call 14; refine (HN.out _ _).mono ?_; rintro e w' ⟨rfl, rfl⟩)
       | (go_at_call 15; refine H6.out.mono ?_; rintro e W6 ⟨rfl, hb6⟩; have hb6' := nxt hb5' hb6; obtain ⟨g0, g1, g2, g3, g4⟩ := HA.out W6 hb6'; have H7 := hidM (eqrecs_any vi vv l W6 (((RS.own HI.out).below hb3).below (nxt (nxt hb4 hb5) hb6)) (HR.out W6 hb6') (by omega)))
       | (go_at_call 16; refine H7.out.mono ?_; rintro e W7 ⟨rfl, hd7⟩; have hb7 := nxt hb6' (hd7.below _))
       | (go_at_call 17; refine (HK.out _).mono ?_; rintro e W8 ⟨rfl, hb8⟩))
     go_ret
     exact ⟨rfl, nxt HB.out (nxt hb7 hb8)⟩
   · have HRES := hidM (show foldRes agg bound l = ([], 1) by unfold foldRes; rw [if_neg hok])
     have HOK := hidM (show (wayC agg bound && decide (l.length ≤ 1536) && keysOk l) = false by simpa using hok)
     clear hok
     go_wp2_with (first
       | (go_at_call 10; refine H2.out.mono ?_; rintro e W2 ⟨vi, rfl, hoi, hb2⟩; have hb2' := nxt hb1 hb2; obtain ⟨c0, c1, c2, c3, c4⟩ := HA.out W2 hb2'; have HI := hidM hoi; have H3 := hidM (fold_any agg bound vi l W2 (RS.own hoi) hwf.out (by omega)); rw [HRES.out] at H3; clear hoi)
       | (go_at_call 11; refine H3.out.mono ?_; rintro e W3 ⟨⟨vx, rfl, hox⟩, hb3⟩; have hb3' := nxt hb2' hb3; obtain ⟨d0, d1, d2, d3, d4⟩ := HA.out W3 hb3'; have HX := hidM hox; have H4 := hidM (mayFold_any agg bound vv l W3 (HR.out W3 hb3') (by omega)); rw [HOK.out] at H4; clear hox)
       | (go_at_call 12; refine H4.out.mono ?_; rintro e W4 ⟨rfl, hb4⟩; have hb4' := nxt hb3' hb4; obtain ⟨e0, e1, e2, e3, e4⟩ := HA.out W4 hb4'; have H6 := hidM (eqrows_any vx (.slice none 0 0) [] W4 (HX.out.ws.below hb4) ⟨none, 0, rfl, .inl rfl⟩ (by simp) (by simp)))
       | (go_at_call 14; refine (HN.out _ _).mono ?_; rintro e w' ⟨rfl, rfl⟩)
       | (go_at_call 15; refine H6.out.mono ?_; rintro e W6 ⟨rfl, hb6⟩; have hb6' := nxt hb4' hb6; obtain ⟨g0, g1, g2, g3, g4⟩ := HA.out W6 hb6'; have H7 := hidM (eqrecs_any vi vv l W6 (((RS.own HI.out).below hb3).below (nxt hb4 hb6)) (HR.out W6 hb6') (by omega)))
       | (go_at_call 16; refine H7.out.mono ?_; rintro e W7 ⟨rfl, hd7⟩; have hb7 := nxt hb6' (hd7.below _))
       | (go_at_call 17; refine (HK.out _).mono ?_; rintro e W8 ⟨rfl, hb8⟩))
     go_ret
     exact ⟨rfl, nxt HB.out (nxt hb7 hb8)⟩
end Go.Proofs.Yticpaemmdfmbfaa
