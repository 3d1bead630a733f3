/- What stage 7's laws call: num, one, wakes. -/
import Derived.Test.YtjegnffhegiajaaCRNeed
import Derived.Test.YtjegnffhegiajaaLHeavy
import Derived.Test.YtjegnffhegiajaaLProg
namespace Go.Proofs.Ytjegnffhegiajaa
open Go.RowKit
set_option linter.unusedVariables false
set_option maxRecDepth 100000

theorem num7_any (e : Int) (w : World) : Calls Try.prog 11 #[.int .i64 e] w fun r w' => r = .returned (.int .i64 e) ∧ w' = w := by
  go_enter Try.func11, Try.ntmps11
  go_wp2
  go_ret
  exact ⟨rfl, rfl⟩
set_option maxHeartbeats 400000 in
theorem one_any (f : Fo) (v : Value) (w : World) (h : FS QA w v f) (hl : f.len ≤ 3518437208780) (hwf : WfB f) :
    Calls Try.prog 6 #[v] w fun e w' => e = .returned (.bool true) ∧ Below w.heap.size w w' := by
  have Hn := hidK num7_any
  have Hc := hidK (need_any f v w h hl hwf)
  have Hf := hidK h
  have HW := hidK (fun W (hb : Below w.heap.size w W) => rneed_any f v W (h.below hb) hl hwf)
  have HX := hidK (fun W (hb : Below w.heap.size w W) => check_any f v W (h.below hb) hl hwf)
  have HY := hidK (fun W (hb : Below w.heap.size w W) => rcheck_any f v W (h.below hb) hl hwf)
  obtain ⟨a, cap, rfl⟩ := h.val
  unfold NeedR at Hc HW
  generalize nE f = c at *
  generalize nL f = l at *
  generalize nP f = p at *
  generalize cE f = z at *
  clear h hwf
  go_enter Try.func6, Try.ntmps6
  go_wp2_with (go_at_call 10; refine Hc.out.mono ?_)
  rintro e w1 ⟨rfl, hb1⟩
  have hc1 := HW.out w1 hb1
  clear Hc
  go_wp2_with (go_at_call 15; refine hc1.mono ?_)
  rintro e w2 ⟨rfl, hb2⟩
  have hb2' := hb1.trans (hb2.mono hb1.size)
  have hc2 := HX.out w2 hb2'
  clear hc1
  go_wp2_with (first | (go_at_call 11; refine (Hn.out _ _).mono ?_; rintro e w' ⟨rfl, rfl⟩) | (go_at_call 16; refine hc2.mono ?_))
  rintro e w3 ⟨rfl, hb3⟩
  have hb3' := hb2'.trans (hb3.mono hb2'.size)
  have hc3 := HY.out w3 hb3'
  clear hc2
  go_wp2_with (first | (go_at_call 11; refine (Hn.out _ _).mono ?_; rintro e w' ⟨rfl, rfl⟩) | (go_at_call 17; refine hc3.mono ?_))
  rintro e w4 ⟨rfl, hb4⟩
  have hb4' := hb3'.trans (hb4.mono hb3'.size)
  clear hc3
  go_wp2
  go_ret
  exact ⟨rfl, hb4'⟩
/-- Ops that a literal makes. -/
theorem fs_new {W : World} {l : List Ro} {f : Fo} {g cap : Nat} {T : TypeId} {fr : Nat × Nat} (hr : Rows' QA W l f) (hb : W.heap[g]? = some (.cells (flatO l).toArray T fr)) : FS QA W (.slice (some ⟨g, 0, none⟩) l.length cap) f := by
  have hg : g < W.heap.size := (Array.getElem?_eq_some_iff.1 hb).1
  refine ⟨_, cap, by rw [hr.len], .inr ⟨g, 0, rfl, hg, foAt_rows hr fun i x hx => ?_⟩⟩
  obtain ⟨h0, h1, h2⟩ := flatO_get l i x hx
  refine ⟨?_, ?_, ?_⟩
  · simp only [World.cell?, hb, Nat.zero_add]; simpa using h0
  · simp only [World.cell?, hb, Nat.zero_add]; simpa using h1
  · simp only [World.cell?, hb, Nat.zero_add]; simpa using h2
abbrev op0 (k : Int) : Ro := (k, 0, .slice none 0 0)
theorem need_wake : needOut (.cons 4 0 .nil (.cons 2 0 .nil .nil)) = (2, 2, 0) := by decide
theorem wakes7_any (w : World) : Calls Try.prog 8 #[] w fun e w' => e = .returned (.bool true) ∧ Below w.heap.size w w' := by
  have Hn := hidK num7_any
  have hB := (Below.refl w.heap.size w).alloc (Nat.le_refl _) (.cells #[.int .i64 4, .int .i64 0, .slice none 0 0, .int .i64 2, .int .i64 0, .slice none 0 0] 38)
  have hfs : FS QA (w.alloc (.cells #[.int .i64 4, .int .i64 0, .slice none 0 0, .int .i64 2, .int .i64 0, .slice none 0 0] 38)) (.slice (some ⟨w.heap.size, 0, none⟩) 2 2) (.cons 4 0 .nil (.cons 2 0 .nil .nil)) :=
    fs_new (l := [op0 4, op0 2]) ⟨rfl, rfl, FS.nil _, rfl, rfl, FS.nil _, trivial⟩ (heap_alloc_new w _)
  have Hc := hidK (need_any _ _ _ hfs (by decide) ⟨by decide, trivial, by decide, trivial, trivial⟩)
  unfold NeedR nL nP nE at Hc
  rw [need_wake] at Hc
  have HB := hidK hB
  clear hfs hB
  go_enter Try.func8, Try.ntmps8
  go_wp2_with (go_at_call 10; refine Hc.out.mono ?_)
  rintro e w1 rfl hb1
  have HB2 := hidK (HB.out.trans (hb1.mono (by simp)))
  clear hb1
  go_wp2_with (go_at_call 11; refine (Hn.out _ _).mono ?_; rintro e w' ⟨rfl, rfl⟩)
  go_ret
  exact ⟨rfl, HB2.out⟩
end Go.Proofs.Ytjegnffhegiajaa
