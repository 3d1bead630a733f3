import Derived.Test.YtclcgakfmcofaaaGreatDoorMW46
import Derived.Test.YtclcgakfmcofaaaGreatDoorMW47
import Derived.Test.YtclcgakfmcofaaaGreatDoorMW45
set_option linter.unusedVariables false
set_option maxRecDepth 100000
set_option maxHeartbeats 1600000
namespace Go.Proofs.YtclcgakfmcofaaaGreatDoor
open Go.RowKit
def cK : aX := ⟨1, [(1, ⟨#[]⟩, [1])], 1, 16⟩
def jB : Jb := ⟨1, ⟨#[98]⟩, 1, 0, 0, 1⟩
def jE : Jb := ⟨1, ⟨#[]⟩, 1, 0, 0, 1⟩
theorem cK_ok : cU cK = true := by decide +kernel
theorem jB_ok : fL jB [1] = true := by decide +kernel
theorem jE_ok : fL jE [1] = true := by decide +kernel
theorem b_no : opR [98] = none := by decide +kernel
theorem jB_prog : cG jB.prog (.err 7) := by
 unfold cG
 rw [if_neg (by decide)]
 have e : aD [] (L jB.prog) = [[98]] := by decide +kernel
 rw [e]
 exact PL.bad (by decide) (by rw [← opR_eq]; exact b_no) [] 0
theorem jE_prog : cG jE.prog (.ok .nil [] 0) := by
 unfold cG
 rw [if_neg (by decide)]
 have e : aD [] (L jE.prog) = [] := by decide +kernel
 rw [e]
 exact PL.end0 0
theorem jB_valid : al cK jB [1] = 7 := gt (by rw [cK_ok, jB_ok]; rfl) jB_prog
theorem nil_cE : cE .nil = 0 := by decide +kernel
theorem jE_valid : al cK jE [1] = 0 := by
 rw [fq (by rw [cK_ok, jE_ok]; rfl) jE_prog nil_cE]
 decide +kernel
theorem cK_recs : dH cK 1 = [] := by
 unfold dH
 rw [jZ (k := 0) cK_ok (by decide +kernel)]
 decide +kernel
theorem jE_map : ap jE [] = ([], 0) := by
 unfold ap
 rw [eD jE_prog]
 unfold jT
 simp only
 rw [if_neg (by rw [nil_cE]; simp), if_pos (by decide +kernel)]
 rfl
theorem ma : aB jE.agg jE.bound.toNat [] = ([], 0) := rfl
theorem outRes_nilJ : ∃ s, bM 1 1 [] = (s, 0) ∧ s.size = 8 := by
 have e1 : dM 1 [] = [[]] := prt_nil 1
 have e2 : cq 1 [[]] = aF (an 1 []) := by show aF (an 1 []) ++ (⟨#[]⟩ : ByteArray) = _; rw [app_nil]
 have e3 : (an 1 []).size = 0 := rfl
 have e4 : (cq 1 (dM 1 [])).size = 8 := by rw [e1, e2, dv, e3]
 refine ⟨cq 1 (dM 1 []), kK (fun m hm => ?_) (by rw [e4]; omega), e4⟩
 rw [e1] at hm
 simp at hm
 subst hm
 rw [e3]
 omega
theorem jE_whole : ∃ s, dV cK jE [1] = (s, 0) ∧ s.size = 8 := by
 obtain ⟨s, h1, h2⟩ := outRes_nilJ
 have hm : eX cK jE [1] [] = ([], 0) := by
  unfold eX
  rw [cK_recs, jE_map]
  simp [eX]
 have ht : bf cK jE [1] = (s, 0) := by
  rw [jf hm (by rw [ma])]
  rw [ma]
  exact h1
 have hg : aI jE [] = (aF (an 1 []), 0) := by
  unfold aI mK
  rw [jE_map]
  rw [if_neg (by simp), if_neg (by rw [ma]; simp)]
  rw [ma, if_neg ?_]
  ·rfl
  ·show ¬ 32704 < (aF (an 1 [])).size
   rw [dv, show (an 1 []).size = 0 from rfl]
   omega
 refine ⟨s, ?_, h2⟩
 rw [ez jE_valid, gy, ht]
 intro h
 obtain ⟨-, i, hi, he⟩ := kT.1 h
 simp at hi
 subst hi
 rw [cK_recs, hg] at he
 cases he
theorem nxtB {a b c : World} (h : Below a.heap.size a b) (k : Below b.heap.size b c) : Below a.heap.size a c := ag h k
theorem wakes14_any (w : World) (hE : iu w) (hH : bI w) : Calls Tryz.prog 15 #[] w (jI w true) := by
 have HN := ae num14_any
 obtain ⟨W1, hW1⟩ : ∃ W1 : World, W1 = w.alloc (.cells #[.int .i64 1] 3) := ⟨_, rfl⟩
 obtain ⟨W2, hW2⟩ : ∃ W2 : World, W2 = W1.alloc (.cells #[.int .i64 1, .string ⟨#[]⟩, .slice (some ⟨w.heap.size, 0, none⟩) 1 1] 93) := ⟨_, rfl⟩
 obtain ⟨W3, hW3⟩ : ∃ W3 : World, W3 = W2.alloc (gq cK (.slice (some ⟨w.heap.size + 1, 0, none⟩) 1 1)) := ⟨_, rfl⟩
 obtain ⟨W4, hW4⟩ : ∃ W4 : World, W4 = W3.alloc (.cells #[.int .i64 1] 3) := ⟨_, rfl⟩
 obtain ⟨W5, hW5⟩ : ∃ W5 : World, W5 = W4.alloc (fQ jB (.slice (some ⟨w.heap.size + 1 + 1 + 1, 0, none⟩) 1 1)) := ⟨_, rfl⟩
 have s1 : W1.heap.size = w.heap.size + 1 := by rw [hW1]; simp
 have s2 : W2.heap.size = w.heap.size + 1 + 1 := by rw [hW2]; simp [s1]
 have s3 : W3.heap.size = w.heap.size + 1 + 1 + 1 := by rw [hW3]; simp [s2]
 have s4 : W4.heap.size = w.heap.size + 1 + 1 + 1 + 1 := by rw [hW4]; simp [s3]
 have b1 : Below w.heap.size w W1 := by rw [hW1]; exact dN _ _
 have b2 : Below W1.heap.size W1 W2 := by rw [hW2]; exact dN _ _
 have b3 : Below W2.heap.size W2 W3 := by rw [hW3]; exact dN _ _
 have b4 : Below W3.heap.size W3 W4 := by rw [hW4]; exact dN _ _
 have b5 : Below W4.heap.size W4 W5 := by rw [hW5]; exact dN _ _
 have n1 : NS W1 (.slice (some ⟨w.heap.size, 0, none⟩) 1 1) [1] := by rw [hW1]; exact ni w 1
 have n4 : NS W4 (.slice (some ⟨w.heap.size + 1 + 1 + 1, 0, none⟩) 1 1) [1] := by rw [hW4, ← s3]; exact ni W3 1
 have BP : ct W2 W1.heap.size (.int .i64 1) (.string ⟨#[]⟩) (.slice (some ⟨w.heap.size, 0, none⟩) 1 1) := by rw [hW2]; exact ct.new W1 _ _ _
 rw [s1] at BP
 have hin : nG W2 cK (.slice (some ⟨w.heap.size + 1, 0, none⟩) 1 1) := by
  obtain ⟨x0, x1, x2⟩ := BP.cells
  refine ⟨by decide, by decide, by decide, ⟨_, 1, rfl, .inr ⟨w.heap.size + 1, 0, rfl, by omega, fun i s hs => ?_⟩⟩, by decide, fun s hs => ?_⟩
  ·match i, hs with
   | 0, hs => simp [cK] at hs; subst hs; exact ⟨x0, x1, _, 1, x2, n1.below b2, by decide⟩
  ·simp [cK] at hs
   subst hs
   exact ⟨by decide, by decide, by decide, by decide⟩
 have hin4 : nG W4 cK (.slice (some ⟨w.heap.size + 1, 0, none⟩) 1 1) := (hin.below b3).below b4
 have b04 : Below w.heap.size w W4 := ag b1 (ag b2 (ag b3 b4))
 have C3 : dg W3 W2.heap.size (.int .i64 1) (.slice (some ⟨w.heap.size + 1, 0, none⟩) 1 1) (.int .i64 1) (.int .i64 16) := by rw [hW3]; exact dg.new W2 _ _ _ _
 rw [s2] at C3
 have C4 := C3.below b4
 have HJb := ae (show ∀ W, Below W4.heap.size W4 W → InJ W jB (.slice (some ⟨w.heap.size + 1 + 1 + 1, 0, none⟩) 1 1) [1] ∧ InJ W jE (.slice (some ⟨w.heap.size + 1 + 1 + 1, 0, none⟩) 1 1) [1] from fun W hW => ⟨⟨n4.below hW, by decide, by decide, ⟨by decide, by decide⟩, ⟨by decide, by decide⟩, ⟨by decide, by decide⟩, ⟨by decide, by decide⟩, ⟨by decide, by decide⟩, fun x hx => by simp at hx; subst hx; exact ⟨by decide, by decide⟩⟩, ⟨n4.below hW, by decide, by decide, ⟨by decide, by decide⟩, ⟨by decide, by decide⟩, ⟨by decide, by decide⟩, ⟨by decide, by decide⟩, ⟨by decide, by decide⟩, fun x hx => by simp at hx; subst hx; exact ⟨by decide, by decide⟩⟩⟩)
 have HJ14 := ae (show ∀ W, Below W4.heap.size W4 W → Job14 W cK (.slice (some ⟨w.heap.size + 1, 0, none⟩) 1 1) jB (.slice (some ⟨w.heap.size + 1 + 1 + 1, 0, none⟩) 1 1) [1] ∧ Job14 W cK (.slice (some ⟨w.heap.size + 1, 0, none⟩) 1 1) jE (.slice (some ⟨w.heap.size + 1 + 1 + 1, 0, none⟩) 1 1) [1] from fun W hW => ⟨⟨hin4.below hW, (HJb.out W hW).1, (hE.low b04).low hW, (hH.below b04 hH.pos).below hW (by have := hH.pos; have := b04.size; omega)⟩, ⟨hin4.below hW, (HJb.out W hW).2, (hE.low b04).low hW, (hH.below b04 hH.pos).below hW (by have := hH.pos; have := b04.size; omega)⟩⟩)
 have J5 : aG W5 W4.heap.size (.int .i64 1) (.string ⟨#[98]⟩) (.int .i64 1) (.int .i64 0) (.int .i64 0) (.slice (some ⟨w.heap.size + 1 + 1 + 1, 0, none⟩) 1 1) (.int .i64 1) := by rw [hW5]; exact aG.new W4 _ _ _ _ _ _ _
 rw [s4] at J5
 have HVA := ae (fun (W : World) (hW : Below W4.heap.size W4 W) => gu cK (.slice (some ⟨w.heap.size + 1, 0, none⟩) 1 1) jB (.slice (some ⟨w.heap.size + 1 + 1 + 1, 0, none⟩) 1 1) [1] W (HJ14.out W hW).1.cfg (HJ14.out W hW).1.job (HJ14.out W hW).1.env)
 have HWH := ae (fun (W : World) (hW : Below W4.heap.size W4 W) => nt cK (.slice (some ⟨w.heap.size + 1, 0, none⟩) 1 1) jE (.slice (some ⟨w.heap.size + 1 + 1 + 1, 0, none⟩) 1 1) [1] W (HJ14.out W hW).2)
 obtain ⟨S, hS, hS8⟩ := jE_whole
 rw [jB_valid] at HVA
 rw [hS] at HWH
 have HC4 := ae C4
 have HJ5 := ae J5
 have HW := ae (show ((((w.alloc (.cells #[.int .i64 1] 3)).alloc (.cells #[.int .i64 1, .string ⟨#[]⟩, .slice (some ⟨w.heap.size, 0, none⟩) 1 1] 93)).alloc (.cells #[.int .i64 1, .slice (some ⟨w.heap.size + 1, 0, none⟩) 1 1, .int .i64 1, .int .i64 16] 24)).alloc (.cells #[.int .i64 1] 3)).alloc (.cells #[.int .i64 1, .string ⟨#[98]⟩, .int .i64 1, .int .i64 0, .int .i64 0, .slice (some ⟨w.heap.size + 1 + 1 + 1, 0, none⟩) 1 1, .int .i64 1] 37) = W5 by rw [hW5, hW4, hW3, hW2, hW1]; rfl)
 have HB04 := ae b04
 have HB5 := ae b5
 have HS4 := ae s4
 clear hW1 hW2 hW3 hW4 hW5 s1 s2 s3 b1 b2 b3 b4 b5 n1 n4 BP hin hin4 b04 C3 C4 J5 hS hE hH s4
 go_enter Tryz.func15, Tryz.ntmps15
 obtain ⟨q0, q1, q2, q3⟩ := (HC4.out.below HB5.out).cells
 obtain ⟨j0, j1, j2, j3, j4, j5, j6⟩ := HJ5.out.cells
 have HAX := ae (show ∀ W6, Below W5.heap.size W5 W6 → Below W4.heap.size W4 (W6.setCell ⟨w.heap.size + 1 + 1 + 1 + 1, 1, none⟩ (.string ⟨#[]⟩)) ∧ Below w.heap.size w W6 ∧ dg W6 (w.heap.size + 1 + 1) (.int .i64 1) (.slice (some ⟨w.heap.size + 1, 0, none⟩) 1 1) (.int .i64 1) (.int .i64 16) ∧ aG W6 (w.heap.size + 1 + 1 + 1 + 1) (.int .i64 1) (.string ⟨#[98]⟩) (.int .i64 1) (.int .i64 0) (.int .i64 0) (.slice (some ⟨w.heap.size + 1 + 1 + 1, 0, none⟩) 1 1) (.int .i64 1) from fun W6 h6 => ⟨(ag HB5.out h6).setCell (p := ⟨w.heap.size + 1 + 1 + 1 + 1, 1, none⟩) (by have := HS4.out; show W4.heap.size ≤ w.heap.size + 1 + 1 + 1 + 1; omega) _, ag HB04.out (ag HB5.out h6), (HC4.out.below HB5.out).below h6, HJ5.out.below h6⟩)
 go_wp2_with fail
 rw [HW.out]
 refine (HVA.out W5 HB5.out).mono ?_
 rintro e W6 ⟨rfl, hb6⟩
 obtain ⟨hx1, hx2, hx3, hx4⟩ := HAX.out W6 hb6
 obtain ⟨q0, q1, q2, q3⟩ := hx3.cells
 obtain ⟨j0, j1, j2, j3, j4, j5, j6⟩ := hx4.cells
 have f1 := hx4.free 1
 have HW7 := ae (HWH.out _ hx1)
 have hb7 := hx2.setCell (p := ⟨w.heap.size + 1 + 1 + 1 + 1, 1, none⟩) (by show w.heap.size ≤ w.heap.size + 1 + 1 + 1 + 1; omega) (.string ⟨#[]⟩)
 have HB7 := ae hb7
 clear hb6 hx1 hx2 hx3 hx4 hb7
 go_wp2_with (first
  | (go_at_call 10; refine (HN.out _ _).mono ?_; rintro e W8 ⟨rfl, hw8⟩; subst hw8)
  | (go_at_call 18; refine HW7.out.mono ?_; clear HW7; rintro e W9 ⟨rfl, hb9⟩))
 go_ret
 exact ⟨rfl, nxtB HB7.out hb9⟩
end Go.Proofs.YtclcgakfmcofaaaGreatDoor
